/- Long division of two words by one, in halves (Knuth): the plain facts. No walk. -/
import Derived.Test.YtmbdggbppbkojaaDoorFixBase
import Derived.Lib.ItoaNum
import Derived.Laws.Bits64b
import Derived.Laws.BitsLemmas
import Derived.Lib.EndianBits
namespace Go.Proofs.YtmbdggbppbkojaaDoor

section
variable {u d V v1 v0 q1 rh : Nat}
/-- The next half of the quotient. -/
def knQ (u d V : Nat) : Nat := (u * 4294967296 + d) / V
theorem kn_lt (hu : u < V) (hd : d < 4294967296) : knQ u d V < 4294967296 := by
  unfold knQ
  rw [Nat.div_lt_iff_lt_mul (by omega), Nat.mul_comm 4294967296 V]
  have : (u + 1) * 4294967296 ≤ V * 4294967296 := Nat.mul_le_mul_right _ hu
  omega
theorem kn_mul (hV : V = v1 * 4294967296 + v0) : q1 * V = q1 * v1 * 4294967296 + q1 * v0 := by
  rw [hV, Nat.mul_add, Nat.mul_assoc]
theorem kn_init (hV : V = v1 * 4294967296 + v0) (h0 : v0 < 4294967296) (h1 : 2147483648 ≤ v1) (hu : u < V) (hd : d < 4294967296) :
    knQ u d V ≤ u / v1 ∧ u / v1 ≤ 4294967297 ∧ u / v1 * v1 + u % v1 = u ∧ u % v1 < v1 := by
  refine ⟨?_, ?_, by rw [Nat.mul_comm]; exact Nat.div_add_mod u v1, Nat.mod_lt _ (by omega)⟩
  · rcases Nat.lt_or_ge (u / v1) (knQ u d V) with h | h
    · exfalso
      have h2 : knQ u d V * V ≤ u * 4294967296 + d := Nat.div_mul_le_self _ _
      have h3 : (u / v1 + 1) * v1 ≤ knQ u d V * v1 := Nat.mul_le_mul_right _ h
      have h4 : u < (u / v1 + 1) * v1 := by
        have h5 := Nat.div_add_mod u v1
        have h6 := Nat.mod_lt u (show v1 > 0 by omega)
        rw [Nat.add_mul, Nat.mul_comm (u / v1)]
        omega
      rw [kn_mul hV] at h2
      generalize knQ u d V * v1 = A at *
      generalize knQ u d V * v0 = B at *
      omega
    · exact h
  · have : u / v1 < 4294967298 := by
      rw [Nat.div_lt_iff_lt_mul (by omega)]
      omega
    omega
theorem kn_step (hV : V = v1 * 4294967296 + v0) (hu : u < V) (hd : d < 4294967296) (hq : knQ u d V ≤ q1) (he : q1 * v1 + rh = u)
    (hc : 4294967296 ≤ q1 ∨ 4294967296 * rh + d < q1 * v0) : knQ u d V ≤ q1 - 1 ∧ (q1 - 1) * v1 + (rh + v1) = u ∧ 1 ≤ q1 := by
  have hlt : knQ u d V < q1 := by
    rcases hc with hc | hc
    · exact Nat.lt_of_lt_of_le (kn_lt hu hd) hc
    · have h2 : knQ u d V * V ≤ u * 4294967296 + d := Nat.div_mul_le_self _ _
      have h3 : u * 4294967296 + d < q1 * V := by
        rw [kn_mul hV]
        generalize q1 * v1 = A at *
        generalize q1 * v0 = B at *
        omega
      exact Nat.lt_of_mul_lt_mul_right (Nat.lt_of_le_of_lt h2 h3)
  refine ⟨by omega, ?_, by omega⟩
  obtain ⟨k, rfl⟩ : ∃ k, q1 = k + 1 := ⟨q1 - 1, by omega⟩
  rw [Nat.add_sub_cancel]
  rw [Nat.add_mul] at he
  omega
theorem kn_done (hV : V = v1 * 4294967296 + v0) (hV0 : 0 < V) (hq : knQ u d V ≤ q1) (he : q1 * v1 + rh = u) (hc : q1 * v0 ≤ 4294967296 * rh + d) : q1 = knQ u d V := by
  have h3 : q1 * V ≤ u * 4294967296 + d := by
    rw [kn_mul hV]
    generalize q1 * v1 = A at *
    generalize q1 * v0 = B at *
    omega
  have : q1 ≤ knQ u d V := by
    unfold knQ
    rw [Nat.le_div_iff_mul_le hV0]
    exact h3
  omega
theorem kn_break (h0 : v0 < 4294967296) (hq : q1 ≤ 4294967296) (hr : 4294967296 ≤ rh) : q1 * v0 ≤ 4294967296 * rh + d := by
  have h1 : q1 * v0 ≤ 4294967296 * v0 := Nat.mul_le_mul_right _ hq
  omega
theorem kn_rest : u * 4294967296 + d = knQ u d V * V + (u * 4294967296 + d) % V := by
  unfold knQ
  rw [Nat.mul_comm ((u * 4294967296 + d) / V) V]
  exact (Nat.div_add_mod _ _).symm
end

theorem bitLen_range : ∀ (n x : Nat), x ≤ n → x ≠ 0 → x < 2 ^ 64 → 1 ≤ Lib.bitLen x ∧ 2 ^ (Lib.bitLen x - 1) ≤ x ∧ x < 2 ^ Lib.bitLen x
  | 0, x, h, h0, _ => absurd (Nat.le_zero.1 h) h0
  | n + 1, x, h, h0, h64 => by
    rw [Lib.bitLen_half x h0 h64]
    by_cases h1 : x / 2 = 0
    · have hx : x = 1 := by omega
      subst hx
      exact ⟨by omega, by decide, by decide⟩
    · obtain ⟨a1, a2, a3⟩ := bitLen_range n (x / 2) (by omega) h1 (by omega)
      obtain ⟨k, hk⟩ : ∃ k, Lib.bitLen (x / 2) = k + 1 := ⟨Lib.bitLen (x / 2) - 1, by omega⟩
      rw [hk] at a2 a3 ⊢
      rw [Nat.add_sub_cancel] at a2
      rw [show 1 + (k + 1) - 1 = k + 1 by omega, show 1 + (k + 1) = k + 2 by omega]
      rw [Nat.pow_succ] at a3
      rw [Nat.pow_succ, Nat.pow_succ, Nat.pow_succ]
      omega
/-- How far a number's highest bit is shifted. -/
theorem norm_shift (y : Nat) (h1 : 1 ≤ y) (h2 : y < 9223372036854775808) : ∃ s, Lib.bitLen y + s = 64 ∧ 1 ≤ s ∧ s ≤ 63 ∧ 9223372036854775808 ≤ y * 2 ^ s ∧ y * 2 ^ s < 18446744073709551616 := by
  have e63 : (2 : Nat) ^ 63 = 9223372036854775808 := by decide
  have e64 : (2 : Nat) ^ 64 = 18446744073709551616 := by decide
  obtain ⟨a1, a2, a3⟩ := bitLen_range y y (Nat.le_refl _) (by omega) (by omega)
  have hb : Lib.bitLen y ≤ 63 := by
    rcases Nat.lt_or_ge 63 (Lib.bitLen y) with h | h
    · exfalso
      have := Nat.pow_le_pow_right (n := 2) (by omega) (show 63 ≤ Lib.bitLen y - 1 by omega)
      omega
    · exact h
  refine ⟨64 - Lib.bitLen y, by omega, by omega, by omega, ?_, ?_⟩
  · have h3 := Nat.mul_le_mul_right (2 ^ (64 - Lib.bitLen y)) a2
    rw [← Nat.pow_add, show Lib.bitLen y - 1 + (64 - Lib.bitLen y) = 63 by omega, e63] at h3
    exact h3
  · have h3 := Nat.mul_lt_mul_of_pos_right a3 (show 0 < 2 ^ (64 - Lib.bitLen y) from Nat.pow_pos (by omega))
    rw [← Nat.pow_add, show Lib.bitLen y + (64 - Lib.bitLen y) = 64 by omega, e64] at h3
    exact h3

/-- The dividend, shifted: its upper and its lower word. -/
theorem norm_words {hi lo y s : Nat} (hs : s ≤ 64) (hlo : lo < 18446744073709551616) (hhi : hi < y) :
    (hi * 18446744073709551616 + lo) * 2 ^ s = (hi * 2 ^ s + lo / 2 ^ (64 - s)) * 18446744073709551616 + lo * 2 ^ s % 18446744073709551616 ∧ hi * 2 ^ s + lo / 2 ^ (64 - s) < y * 2 ^ s ∧ lo / 2 ^ (64 - s) < 2 ^ s := by
  have e64 : (2 : Nat) ^ 64 = 18446744073709551616 := by decide
  have hp : (2 : Nat) ^ (64 - s) * 2 ^ s = 18446744073709551616 := by rw [← Nat.pow_add, show 64 - s + s = 64 by omega, e64]
  have h1 : 0 < (2 : Nat) ^ s := Nat.pow_pos (by omega)
  have h2 : 0 < (2 : Nat) ^ (64 - s) := Nat.pow_pos (by omega)
  have hq : lo / 2 ^ (64 - s) < 2 ^ s := by
    rw [Nat.div_lt_iff_lt_mul h2, Nat.mul_comm, hp]
    exact hlo
  refine ⟨?_, ?_, hq⟩
  · have h3 : lo * 2 ^ s / 18446744073709551616 = lo / 2 ^ (64 - s) := by
      rw [← hp, Nat.mul_div_mul_right _ _ h1]
    have h4 := Nat.div_add_mod (lo * 2 ^ s) 18446744073709551616
    rw [h3] at h4
    rw [Nat.add_mul, Nat.add_mul, Nat.mul_right_comm]
    generalize hi * 2 ^ s = A at *
    generalize lo * 2 ^ s = B at *
    generalize lo / 2 ^ (64 - s) = C at *
    omega
  · have h5 : (hi + 1) * 2 ^ s ≤ y * 2 ^ s := Nat.mul_le_mul_right _ hhi
    rw [Nat.add_mul] at h5
    omega

/-- The two halves make the whole quotient and the rest. -/
theorem kn_whole {hi lo y S U V d1 d0 L : Nat} (hS : 0 < S) (hy : 0 < y) (hV : V = y * S) (hU : (hi * 18446744073709551616 + lo) * S = U * 18446744073709551616 + L) (hL : L = d1 * 4294967296 + d0) :
    (hi * 18446744073709551616 + lo) / y = knQ U d1 V * 4294967296 + knQ ((U * 4294967296 + d1) % V) d0 V ∧
    (hi * 18446744073709551616 + lo) % y = ((U * 4294967296 + d1) % V * 4294967296 + d0) % V / S := by
  have e1 : U * 4294967296 + d1 = knQ U d1 V * V + (U * 4294967296 + d1) % V := kn_rest (u := U) (d := d1) (V := V)
  obtain ⟨R, hr⟩ : ∃ R, (U * 4294967296 + d1) % V = R := ⟨_, rfl⟩
  rw [hr] at e1 ⊢
  have e2 : R * 4294967296 + d0 = knQ R d0 V * V + (R * 4294967296 + d0) % V := kn_rest (u := R) (d := d0) (V := V)
  have hV0 : 0 < V := by rw [hV]; exact Nat.mul_pos hy hS
  have e3 : (hi * 18446744073709551616 + lo) * S = (knQ U d1 V * 4294967296 + knQ R d0 V) * V + (R * 4294967296 + d0) % V := by
    rw [hU, hL, Nat.add_mul, Nat.mul_right_comm]
    obtain ⟨A, hA⟩ : ∃ A, knQ U d1 V * V = A := ⟨_, rfl⟩
    obtain ⟨B, hB⟩ : ∃ B, knQ R d0 V * V = B := ⟨_, rfl⟩
    obtain ⟨C, hC⟩ : ∃ C, (R * 4294967296 + d0) % V = C := ⟨_, rfl⟩
    rw [hA] at e1
    rw [hB, hC] at e2
    rw [hA, hB, hC]
    clear hU hL hV hr hA hB hC hV0 hS hy
    have e0 : U * 18446744073709551616 = U * 4294967296 * 4294967296 := by rw [Nat.mul_assoc]
    obtain ⟨D, hD⟩ : ∃ D, U * 4294967296 = D := ⟨_, rfl⟩
    rw [hD] at e1 e0
    rw [e0]
    rw [← Nat.add_assoc, ← Nat.add_mul, e1, Nat.add_mul, Nat.add_assoc, e2, ← Nat.add_assoc]
  have hlt : (R * 4294967296 + d0) % V < V := Nat.mod_lt _ hV0
  have e4 : (hi * 18446744073709551616 + lo) * S / V = knQ U d1 V * 4294967296 + knQ R d0 V := by
    rw [e3, Nat.mul_comm _ V, Nat.mul_add_div hV0, Nat.div_eq_of_lt hlt, Nat.add_zero]
  have e5 : (hi * 18446744073709551616 + lo) * S % V = (R * 4294967296 + d0) % V := by
    rw [e3, Nat.mul_comm _ V, Nat.mul_add_mod, Nat.mod_mod]
  rw [hV, Nat.mul_div_mul_right _ _ hS] at e4
  rw [hV, Nat.mul_mod_mul_right] at e5
  refine ⟨?_, ?_⟩
  · rw [e4, hV]
  · rw [hV, ← e5, Nat.mul_div_cancel _ hS]

/-- One half of the long division: the divisor in halves, the dividend's upper word, its next half. -/
structure Half (u d V v1 v0 : Nat) : Prop where
  hV : V = v1 * 4294967296 + v0
  v0l : v0 < 4294967296
  v1g : 2147483648 ≤ v1
  v1l : v1 < 4294967296
  ul : u < V
  dl : d < 4294967296
/-- What a guess of the quotient's half keeps. -/
structure Guess (u d V v1 q rh : Nat) : Prop where
  ge : knQ u d V ≤ q
  eq : q * v1 + rh = u
  rl : rh < 4294967296
  ql : q ≤ 4294967297
theorem word_nat (n : Nat) (h : n < 18446744073709551616) : IntKind.u64.wrap (n : Int) = (n : Int) := wraps_u64 _ (by omega) (by omega)
section
variable {u d V v1 v0 q rh : Nat}
theorem Half.first (H : Half u d V v1 v0) : Guess u d V v1 (u / v1) (u % v1) := by
  obtain ⟨a1, a2, a3, a4⟩ := kn_init H.hV H.v0l H.v1g H.ul H.dl
  exact ⟨a1, a3, by have := H.v1l; omega, a2⟩
theorem Half.done (H : Half u d V v1 v0) (G : Guess u d V v1 q rh) (h : q * v0 ≤ 4294967296 * rh + d) : q = knQ u d V :=
  kn_done H.hV (by have := H.ul; omega) G.ge G.eq h
theorem Half.step (H : Half u d V v1 v0) (G : Guess u d V v1 q rh) (hc : 4294967296 ≤ q ∨ 4294967296 * rh + d < q * v0) :
    ∃ p, q = p + 1 ∧ knQ u d V ≤ p ∧ (4294967296 ≤ rh + v1 → p = knQ u d V) ∧ (rh + v1 < 4294967296 → Guess u d V v1 p (rh + v1)) := by
  obtain ⟨a1, a2, a3⟩ := kn_step H.hV H.ul H.dl G.ge G.eq hc
  obtain ⟨p, rfl⟩ : ∃ p, q = p + 1 := ⟨q - 1, by omega⟩
  rw [Nat.add_sub_cancel] at a1 a2
  have hp : p ≤ 4294967296 := by have := G.ql; omega
  refine ⟨p, rfl, a1, fun h => ?_, fun h => ⟨a1, a2, h, by omega⟩⟩
  exact kn_done H.hV (by have := H.ul; omega) a1 a2 (kn_break H.v0l hp h)
theorem Half.small (H : Half u d V v1 v0) (hq : q < 4294967296) : q * v0 < 18446744073709551616 := by
  have h1 : q * v0 ≤ q * 4294967296 := Nat.mul_le_mul_left _ (Nat.le_of_lt H.v0l)
  omega
theorem Half.rest (H : Half u d V v1 v0) (h2 : V < 18446744073709551616) :
    IntKind.u64.wrap (IntKind.u64.wrap (IntKind.u64.wrap ((u : Int) * 4294967296) + (d : Int)) - IntKind.u64.wrap ((knQ u d V : Int) * (V : Int))) = (((u * 4294967296 + d) % V : Nat) : Int) := by
  have h1 := kn_rest (u := u) (d := d) (V := V)
  have h3 : (u * 4294967296 + d) % V < V := Nat.mod_lt _ (by have := H.ul; omega)
  obtain ⟨R, hR⟩ : ∃ R, (u * 4294967296 + d) % V = R := ⟨_, rfl⟩
  obtain ⟨B, hB⟩ : ∃ B : Nat, knQ u d V * V = B := ⟨_, rfl⟩
  obtain ⟨A, hA⟩ : ∃ A : Nat, u * 4294967296 = A := ⟨_, rfl⟩
  have hAi : (u : Int) * 4294967296 = (A : Int) := by rw [← hA]; simp
  have hBi : (knQ u d V : Int) * (V : Int) = (B : Int) := by rw [← hB]; simp
  rw [hR] at h1 h3 ⊢
  rw [hA, hB] at h1
  rw [hAi, hBi, IntKind.wrap_u64, IntKind.wrap_u64, IntKind.wrap_u64, IntKind.wrap_u64]
  clear hAi hBi hA hB hR H
  omega
theorem Half.over (H : Half u d V v1 v0) : IntKind.u64.wrap ((u : Int) - IntKind.u64.wrap (((u / v1 : Nat) : Int) * (v1 : Int))) = ((u % v1 : Nat) : Int) := by
  have h1 : u / v1 * v1 + u % v1 = u := by rw [Nat.mul_comm]; exact Nat.div_add_mod u v1
  have h2 : u < 18446744073709551616 := by have := H.ul; have := H.hV; have := H.v1l; have := H.v0l; omega
  obtain ⟨B, hB⟩ : ∃ B : Nat, u / v1 * v1 = B := ⟨_, rfl⟩
  obtain ⟨R, hR⟩ : ∃ R : Nat, u % v1 = R := ⟨_, rfl⟩
  have hBi : ((u / v1 : Nat) : Int) * (v1 : Int) = (B : Int) := by rw [← hB]; simp
  rw [hBi, hR]
  rw [hB, hR] at h1
  rw [IntKind.wrap_u64, IntKind.wrap_u64]
  clear hBi hB hR H
  omega
end
/-- The whole division's words. -/
structure Kn (hi lo y s V v1 v0 U L d1 d0 : Nat) : Prop where
  hV : V = y * 2 ^ s
  V1 : 9223372036854775808 ≤ V
  V2 : V < 18446744073709551616
  hv1 : v1 = V / 4294967296
  hv0 : v0 = V % 4294967296
  hU : U = hi * 2 ^ s + lo / 2 ^ (64 - s)
  UV : U < V
  hL : L = lo * 2 ^ s % 18446744073709551616
  hd1 : d1 = L / 4294967296
  hd0 : d0 = L % 4294967296
  low : lo / 2 ^ (64 - s) < 2 ^ s
  all : (hi * 18446744073709551616 + lo) * 2 ^ s = U * 18446744073709551616 + L
section
variable {hi lo y s V v1 v0 U L d1 d0 : Nat} (K : Kn hi lo y s V v1 v0 U L d1 d0)
include K
theorem Kn.half1 : Half U d1 V v1 v0 := by
  have h1 := K.V1
  have h2 := K.V2
  have h3 := K.hv1
  have h4 := K.hv0
  have h5 := K.hL
  have h6 := K.hd1
  exact ⟨by omega, by omega, by omega, by omega, K.UV, by omega⟩
theorem Kn.half2 : Half ((U * 4294967296 + d1) % V) d0 V v1 v0 := by
  have h1 := K.half1
  have h2 := K.V1
  have h3 := K.hd0
  exact ⟨h1.hV, h1.v0l, h1.v1g, h1.v1l, Nat.mod_lt _ (by omega), by omega⟩
theorem Kn.sayV : IntKind.u64.wrap ((y : Int) * 2 ^ s) = (V : Int) := by
  have h : (y : Int) * 2 ^ s = (V : Int) := by rw [K.hV]; simp
  rw [h]; exact word_nat _ K.V2
theorem Kn.sayL : IntKind.u64.wrap ((lo : Int) * 2 ^ s) = (L : Int) := by
  have h : (lo : Int) * 2 ^ s = ((lo * 2 ^ s : Nat) : Int) := by simp
  have h2 := K.hL
  rw [h, IntKind.wrap_u64]
  obtain ⟨A, hA⟩ : ∃ A, lo * 2 ^ s = A := ⟨_, rfl⟩
  rw [hA] at h2 ⊢
  clear h hA K
  omega
theorem Kn.sayU (hs : s ≤ 63) : bits .or .u64 (IntKind.u64.wrap ((hi : Int) * 2 ^ s)) ((lo : Int) / 2 ^ (64 - s)) = (U : Int) := by
  have e64 : (2 : Int) ^ 64 = 18446744073709551616 := by decide
  have h : (hi : Int) * 2 ^ s = ((hi * 2 ^ s : Nat) : Int) := by simp
  have h2 : (lo : Int) / 2 ^ (64 - s) = ((lo / 2 ^ (64 - s) : Nat) : Int) := by simp
  have hu := K.hU
  have hv := K.UV
  have hw := K.V2
  have hl := K.low
  have hp : (2 : Nat) ^ s < 18446744073709551616 := by
    have := Nat.pow_le_pow_right (n := 2) (by omega) hs
    have e63 : (2 : Nat) ^ 63 = 9223372036854775808 := by decide
    omega
  have hm : ((hi * 2 ^ s : Nat) : Int) % 2 ^ s = 0 := by
    rw [show ((2 : Int) ^ s) = ((2 ^ s : Nat) : Int) by simp, ← Int.natCast_emod, Nat.mul_mod_left]
    rfl
  have hc : ((lo / 2 ^ (64 - s) : Nat) : Int) < 2 ^ s := by
    rw [show ((2 : Int) ^ s) = ((2 ^ s : Nat) : Int) by simp]
    exact_mod_cast hl
  rw [h, h2]
  obtain ⟨B, hB⟩ : ∃ B, hi * 2 ^ s = B := ⟨_, rfl⟩
  obtain ⟨C, hC⟩ : ∃ C, lo / 2 ^ (64 - s) = C := ⟨_, rfl⟩
  rw [hB] at hm hu ⊢
  rw [hC] at hc hu hl ⊢
  have hB2 : B < 18446744073709551616 := by omega
  have hC2 : C < 18446744073709551616 := by omega
  rw [word_nat _ hB2, bits_join .u64 64 (by decide) (fun n h0 h1 => wraps_u64 n h0 h1) s _ _ (by omega) hm (by rw [e64]; omega) (by omega) hc (by rw [e64]; omega), hu]
  omega
end
theorem low_half (V : Nat) (h : V < 18446744073709551616) : bits .and .u64 (V : Int) 4294967295 = ((V % 4294967296 : Nat) : Int) := by
  have h1 := bits_and_u64_nat V 4294967295 h (by omega)
  have h2 : V &&& 4294967295 = V % 4294967296 := Nat.and_two_pow_sub_one_eq_mod V 32
  rw [h2] at h1
  exact h1
theorem kn_exists (hi lo y : Nat) (hhi : hi < y) (hy : y < 9223372036854775808) (hlo : lo < 18446744073709551616) :
    ∃ s V v1 v0 U L d1 d0, Kn hi lo y s V v1 v0 U L d1 d0 ∧ Lib.bitLen y + s = 64 ∧ 1 ≤ s ∧ s ≤ 63 := by
  obtain ⟨s, hs, hs1, hs2, hV1, hV2⟩ := norm_shift y (by omega) hy
  obtain ⟨hU, hUV, hql⟩ := norm_words (hi := hi) (lo := lo) (y := y) (s := s) (by omega) hlo hhi
  exact ⟨s, _, _, _, _, _, _, _, ⟨rfl, hV1, hV2, rfl, rfl, rfl, hUV, rfl, rfl, rfl, hql, hU⟩, hs, hs1, hs2⟩
/-- The two halves' answers are the division's. -/
theorem Kn.answer {hi lo y s V v1 v0 U L d1 d0 : Nat} (K : Kn hi lo y s V v1 v0 U L d1 d0) (hy : 0 < y) :
    IntKind.u64.wrap (IntKind.u64.wrap ((knQ U d1 V : Int) * 4294967296) + (knQ ((U * 4294967296 + d1) % V) d0 V : Int)) = (((hi * 18446744073709551616 + lo) / y : Nat) : Int) ∧
    ((((U * 4294967296 + d1) % V * 4294967296 + d0) % V : Nat) : Int) / 2 ^ s = (((hi * 18446744073709551616 + lo) % y : Nat) : Int) := by
  have h1 := K.hd1
  have h0 := K.hd0
  obtain ⟨a1, a2⟩ := kn_whole (hi := hi) (lo := lo) (y := y) (S := 2 ^ s) (U := U) (V := V) (d1 := d1) (d0 := d0) (L := L) (Nat.pow_pos (by omega)) hy K.hV K.all (by omega)
  have b1 := kn_lt (u := U) (d := d1) (V := V) K.UV K.half1.dl
  have b2 := kn_lt (u := (U * 4294967296 + d1) % V) (d := d0) (V := V) K.half2.ul K.half2.dl
  rw [a1, a2]
  refine ⟨?_, ?_⟩
  · obtain ⟨A, hA⟩ : ∃ A, knQ U d1 V = A := ⟨_, rfl⟩
    obtain ⟨B, hB⟩ : ∃ B, knQ ((U * 4294967296 + d1) % V) d0 V = B := ⟨_, rfl⟩
    rw [hA] at b1 ⊢
    rw [hB] at b2 ⊢
    rw [IntKind.wrap_u64, IntKind.wrap_u64]
    clear a1 a2 hA hB K
    omega
  · simp
end Go.Proofs.YtmbdggbppbkojaaDoor
