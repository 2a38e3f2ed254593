/- A product by a number, rounded down and brought within 64 bits: the plain facts. No walk. -/
import Derived.Test.YtmbdggbppbkojaaDoorFixBase
namespace Go.Proofs.YtmbdggbppbkojaaDoor

/-- Down, for a number below 0, is away from 0. -/
def roundUp (q r : Nat) (neg : Bool) : Nat := if neg = true ∧ 0 < r then q + 1 else q
/-- The document's product by a number, of sizes and a sign. -/
def scaled (X Y B : Nat) (neg : Bool) : Int × Bool := sgn (roundUp (X * Y / B) (X * Y % B) neg) neg
theorem roundUp_ge (q r : Nat) (neg : Bool) : q ≤ roundUp q r neg := by unfold roundUp; split <;> omega
theorem sgn_out (n : Nat) (neg : Bool) (h : 9223372036854775808 < n) : sgn n neg = (if neg then -9223372036854775808 else 9223372036854775807, true) := by
  cases neg
  · exact sgn_pos_big n (by omega)
  · exact sgn_neg_big n (by omega)
theorem high_big {P B : Nat} (hB : 0 < B) (h : B ≤ P / 18446744073709551616) : 18446744073709551616 ≤ P / B := by
  rw [Nat.le_div_iff_mul_le hB]
  have h1 : B * 18446744073709551616 ≤ P / 18446744073709551616 * 18446744073709551616 := Nat.mul_le_mul_right _ h
  have h2 := Nat.div_mul_le_self P 18446744073709551616
  rw [Nat.mul_comm]
  exact Nat.le_trans h1 h2
theorem high_small {P B : Nat} (h : P / 18446744073709551616 < B) : P / B < 18446744073709551616 := by
  rw [Nat.div_lt_iff_lt_mul (by omega), Nat.mul_comm]
  exact (Nat.div_lt_iff_lt_mul (by omega)).1 h
theorem scaled_big {X Y B : Nat} {neg : Bool} (hB : 0 < B) (h : B ≤ X * Y / 18446744073709551616) : scaled X Y B neg = (if neg then -9223372036854775808 else 9223372036854775807, true) := by
  have h1 := high_big hB h
  have h2 := roundUp_ge (X * Y / B) (X * Y % B) neg
  exact sgn_out _ _ (Nat.lt_of_lt_of_le (by omega) (Nat.le_trans h1 h2))
/-- The greatest quotient is out of bounds, rounded or not. -/
theorem scaled_most {X Y B q r : Nat} (hq : X * Y / B = q) (hr : X * Y % B = r) (h : 18446744073709551615 ≤ q) : scaled X Y B true = sgn q true := by
  unfold scaled
  rw [hq, hr]
  have h2 := roundUp_ge q r true
  rw [sgn_out _ _ (by omega), sgn_out _ _ (by omega)]
theorem scaled_up {X Y B q r : Nat} (hq : X * Y / B = q) (hr : X * Y % B = r) (h : 0 < r) : scaled X Y B true = sgn (q + 1) true := by
  unfold scaled roundUp
  rw [hq, hr, if_pos ⟨rfl, h⟩]
theorem scaled_even {X Y B q r : Nat} {neg : Bool} (hq : X * Y / B = q) (hr : X * Y % B = r) (h : neg = false ∨ r = 0) : scaled X Y B neg = sgn q neg := by
  unfold scaled roundUp
  rw [hq, hr, if_neg]
  rintro ⟨h1, h2⟩
  rcases h with h | h
  · rw [h] at h1; cases h1
  · omega

/-- What the bits read so far come to: P is the product of them. -/
structure Inv (B P q r : Nat) (o : Bool) : Prop where
  rl : r < B
  ql : q < 18446744073709551616
  ex : ∃ Q, P = Q * B + r ∧ (o = false → q = Q) ∧ (o = true → 18446744073709551616 ≤ Q)
theorem Inv.zero {B : Nat} (hB : 0 < B) : Inv B 0 0 0 false := ⟨hB, by omega, 0, by simp, fun _ => rfl, fun h => by cases h⟩
theorem Inv.twice {B P q r : Nat} {o : Bool} (I : Inv B P q r o) :
    Inv B (2 * P) (if decide (B ≤ 2 * r) then (2 * q % 18446744073709551616 + 1) % 18446744073709551616 else 2 * q % 18446744073709551616) (if decide (B ≤ 2 * r) then 2 * r - B else 2 * r) (o || decide (9223372036854775807 < q)) := by
  obtain ⟨rl, ql, Q, hP, h1, h2⟩ := I
  have hm : 2 * P = 2 * Q * B + 2 * r := by rw [hP, Nat.mul_add, Nat.mul_assoc]
  have ho : (o || decide (9223372036854775807 < q)) = true → 9223372036854775808 ≤ Q := by
    intro h
    cases o
    · have := h1 rfl
      have h3 : 9223372036854775807 < q := by simpa using h
      omega
    · have := h2 rfl; omega
  have hf : (o || decide (9223372036854775807 < q)) = false → q = Q ∧ q ≤ 9223372036854775807 := by
    intro h
    cases o
    · have h3 : ¬ 9223372036854775807 < q := by simpa using h
      exact ⟨h1 rfl, by omega⟩
    · simp at h
  by_cases hb : B ≤ 2 * r
  · simp only [hb, decide_true, if_true]
    refine ⟨by omega, Nat.mod_lt _ (by omega), 2 * Q + 1, ?_, fun h => ?_, fun h => ?_⟩
    · rw [hm, Nat.add_mul]; omega
    · obtain ⟨a, b⟩ := hf h; omega
    · have := ho h; omega
  · simp only [hb, decide_false, Bool.false_eq_true, if_false]
    refine ⟨by omega, Nat.mod_lt _ (by omega), 2 * Q, hm, fun h => ?_, fun h => ?_⟩
    · obtain ⟨a, b⟩ := hf h; omega
    · have := ho h; omega
/-- Y is added: its quotient, then its rest. -/
theorem Inv.add {B P Y q r q2 : Nat} {o : Bool} (hB : 0 < B) (hY : Y < 18446744073709551616) (I : Inv B P q r o) (h2 : q2 = (q + Y / B) % 18446744073709551616) :
    ¬ B ≤ r + Y % B → Inv B (P + Y) q2 (r + Y % B) (o || decide (q2 < q)) := by
  intro hb
  obtain ⟨rl, ql, Q, hP, a1, a2⟩ := I
  have hd : Y / B ≤ Y := Nat.div_le_self _ _
  have hm : P + Y = (Q + Y / B) * B + (r + Y % B) := by
    have := Nat.div_add_mod Y B
    rw [Nat.add_mul, Nat.mul_comm (Y / B) B, hP]; omega
  refine ⟨by omega, by rw [h2]; exact Nat.mod_lt _ (by omega), Q + Y / B, hm, ?_⟩
  clear hm hP rl hb hB
  obtain ⟨D, hD⟩ : ∃ D, Y / B = D := ⟨_, rfl⟩
  rw [hD] at hd h2 ⊢
  clear hD
  refine ⟨fun h => ?_, fun h => ?_⟩
  · cases o
    · have h3 : ¬ q2 < q := by simpa using h
      have := a1 rfl; omega
    · simp at h
  · cases o
    · have h3 : q2 < q := by simpa using h
      have := a1 rfl; omega
    · have := a2 rfl; omega
theorem Inv.addc {B P Y q r q2 q3 : Nat} {o : Bool} (hB : 0 < B) (hY : Y < 9223372036854775809) (I : Inv B P q r o) (h2 : q2 = (q + Y / B) % 18446744073709551616) (h3 : q3 = (q2 + 1) % 18446744073709551616) :
    B ≤ r + Y % B → Inv B (P + Y) q3 (r + Y % B - B) ((o || decide (q2 < q)) || decide (q3 = 0)) := by
  intro hb
  obtain ⟨rl, ql, Q, hP, a1, a2⟩ := I
  have hd : Y / B ≤ Y := Nat.div_le_self _ _
  have hl : Y % B < B := Nat.mod_lt _ hB
  have hm : P + Y = (Q + Y / B + 1) * B + (r + Y % B - B) := by
    have := Nat.div_add_mod Y B
    rw [Nat.add_mul, Nat.add_mul, Nat.mul_comm (Y / B) B, hP]; omega
  have hDb : Y / B + 1 < 18446744073709551616 := by omega
  refine ⟨by omega, by rw [h3]; exact Nat.mod_lt _ (by omega), Q + Y / B + 1, hm, ?_⟩
  clear hm hP rl hb hB hl
  obtain ⟨D, hD⟩ : ∃ D, Y / B = D := ⟨_, rfl⟩
  rw [hD] at hd h2 hDb ⊢
  clear hD
  refine ⟨fun h => ?_, fun h => ?_⟩
  · cases o
    · have h4 : ¬ q2 < q ∧ ¬ q3 = 0 := by simpa using h
      have := a1 rfl; omega
    · simp at h
  · cases o
    · have h4 : q2 < q ∨ q3 = 0 := by simpa using h
      have := a1 rfl; omega
    · have := a2 rfl; omega
/-- The end of all bits. -/
theorem Inv.over {X Y B q r : Nat} {o : Bool} (hB : 0 < B) (I : Inv B (X * Y) q r o) : X * Y % B = r ∧ (o = false → X * Y / B = q) ∧ (o = true → 18446744073709551616 ≤ X * Y / B) := by
  obtain ⟨rl, ql, Q, hP, a1, a2⟩ := I
  have h1 : X * Y % B = r := by rw [hP, Nat.mul_comm Q B, Nat.mul_add_mod, Nat.mod_eq_of_lt rl]
  have h2 : X * Y / B = Q := by rw [hP, Nat.mul_comm Q B, Nat.mul_add_div hB, Nat.div_eq_of_lt rl, Nat.add_zero]
  exact ⟨h1, fun h => by rw [h2, a1 h], fun h => by rw [h2]; exact a2 h⟩
/-- The next bit. -/
theorem bits_next (X i : Nat) : X / 2 ^ i = 2 * (X / 2 ^ (i + 1)) + X / 2 ^ i % 2 := by
  have h : X / 2 ^ (i + 1) = X / 2 ^ i / 2 := by rw [Nat.pow_succ, Nat.div_div_eq_div_mul]
  rw [h]
  exact (Nat.div_add_mod _ _).symm
/-- The answer by the last whole part and whether it went over. -/
structure Fin (S : Int × Bool) (q : Nat) (neg o : Bool) : Prop where
  ql : q < 18446744073709551616
  t : o = true → S = (if neg then -9223372036854775808 else 9223372036854775807, true)
  f : o = false → S = sgn q neg
theorem fin_even {X Y B q r : Nat} {o neg : Bool} (hB : 0 < B) (I : Inv B (X * Y) q r o) (h : neg = false ∨ r = 0) : Fin (scaled X Y B neg) q neg o := by
  obtain ⟨h1, h2, h3⟩ := I.over hB
  refine ⟨I.ql, fun ho => ?_, fun ho => ?_⟩
  · rw [scaled_even rfl h1 h]
    exact sgn_out _ _ (by have := h3 ho; omega)
  · exact scaled_even (h2 ho) h1 h
theorem fin_up {X Y B q r q2 : Nat} {o : Bool} (hB : 0 < B) (I : Inv B (X * Y) q r o) (h : 0 < r) (hq : q2 = (q + 1) % 18446744073709551616) : Fin (scaled X Y B true) q2 true (o || decide (q2 = 0)) := by
  obtain ⟨h1, h2, h3⟩ := I.over hB
  have hl := I.ql
  refine ⟨by omega, fun ho => ?_, fun ho => ?_⟩
  · rw [scaled_up rfl h1 h]
    obtain ⟨Q, hQ⟩ : ∃ Q, X * Y / B = Q := ⟨_, rfl⟩
    rw [hQ] at h2 h3 ⊢
    refine sgn_out _ _ ?_
    cases o
    · have h4 : q2 = 0 := by simpa using ho
      have := h2 rfl; omega
    · have := h3 rfl; omega
  · cases o
    · have h4 : ¬ q2 = 0 := by simpa using ho
      rw [scaled_up (h2 rfl) h1 h, show q2 = q + 1 by omega]
    · simp at ho
theorem Inv.cast {B P P2 q r : Nat} {o : Bool} (I : Inv B P q r o) (h : P = P2) : Inv B P2 q r o := h ▸ I
theorem bits_done {X : Nat} (h : X < 18446744073709551616) : X / 2 ^ 64 = 0 := by
  have e : (2 : Nat) ^ 64 = 18446744073709551616 := by decide
  exact Nat.div_eq_of_lt (by omega)
/-- No bit, or one bit, further. -/
theorem bits_even (X Y k : Nat) (h : X / 2 ^ k % 2 = 0) : 2 * (X / 2 ^ (k + 1) * Y) = X / 2 ^ k * Y := by
  have := bits_next X k
  rw [h, Nat.add_zero] at this
  rw [this, Nat.mul_assoc]
theorem bits_odd (X Y k : Nat) (h : X / 2 ^ k % 2 = 1) : 2 * (X / 2 ^ (k + 1) * Y) + Y = X / 2 ^ k * Y := by
  have := bits_next X k
  rw [h] at this
  rw [this, Nat.add_mul, Nat.one_mul, Nat.mul_assoc]
end Go.Proofs.YtmbdggbppbkojaaDoor
