/- The contract of fix.Parse: it returns what 'parseF' of the text's bytes is. -/
import Derived.Test.YtmbdggbppbkojaaDoorFixDigit
import Derived.Test.YtmbdggbppbkojaaDoorFixNext
import Derived.Test.YtmbdggbppbkojaaDoorFixWord
namespace Go.Proofs.YtmbdggbppbkojaaDoor
open Go.RowKit

def num0 : Num := ⟨false, 0, false, 0, 0, false, 0⟩
def runP (a : Nat) (N : Num) : List UInt8 → Nat × Num
  | [] => (a, N)
  | c :: l => if nextF a c.toNat = 8 then (8, N) else runP (nextF a c.toNat) (takeF N (nextF a c.toNat) c.toNat) l
def parseF (l : List UInt8) : Int × Int :=
  if isWordB l then (0, 4)
  else if (runP 0 num0 l).1 = 2 ∨ (runP 0 num0 l).1 = 4 ∨ (runP 0 num0 l).1 = 7 then millF (runP 0 num0 l).2
  else (0, 3)

theorem nextF_le (a : Nat) (r : Int) : nextF a r ≤ 8 := by
  unfold nextF; repeat' split
  all_goals omega
theorem nextF_digit {a : Nat} {r : Int} (h : nextF a r = 2 ∨ nextF a r = 7) : 48 ≤ r ∧ r ≤ 57 := by
  have h2 : isDigitB r = true := by
    unfold nextF at h
    repeat' (split at h)
    all_goals first | omega | (simp_all; done)
  simpa [isDigitB] using h2
theorem nextF_high (a : Nat) (r : Int) (h : 128 ≤ r) : nextF a r = 8 := by
  have h1 : isSignB r = false := by simp [isSignB]; omega
  have h2 : isDigitB r = false := by simp [isDigitB]; omega
  unfold nextF
  simp [h1, h2]
  repeat' split
  all_goals omega

/-- Bounds on what was gathered after k bytes. -/
structure Small (N : Num) (k : Nat) : Prop where
  digits : N.digits < 18446744073709551616
  zeros : N.zeros ≤ k
  behind : N.behind ≤ k
  power : N.power ≤ 10995116277769
theorem small0 : Small num0 0 := ⟨by decide, Nat.le_refl _, Nat.le_refl _, by decide⟩
theorem digitF_small {N : Num} {k d : Nat} (h : Small N k) : (digitF N d).digits < 18446744073709551616 ∧ (digitF N d).zeros ≤ k + 1 ∧ (digitF N d).behind = N.behind ∧ (digitF N d).power = N.power := by
  obtain ⟨h1, h2, h3, h4⟩ := h
  unfold digitF
  split
  · exact ⟨Nat.mod_lt _ (by omega), by simp, rfl, rfl⟩
  · split
    · exact ⟨h1, by simp; omega, rfl, rfl⟩
    · exact ⟨h1, by omega, rfl, rfl⟩
theorem takeF_small {N : Num} {k : Nat} (h : Small N k) (a : Nat) (r : Int) (hr : a = 7 → 48 ≤ r ∧ r ≤ 57) : Small (takeF N a r) (k + 1) := by
  obtain ⟨h1, h2, h3, h4⟩ := h
  unfold takeF
  split
  · exact ⟨h1, by simp; omega, by simp; omega, h4⟩
  · split
    · split
      · have := digitF_small (N := { N with behind := N.behind + 1 }) (k := k + 1) (d := (r - 48).toNat) ⟨h1, by simp; omega, by simp; omega, h4⟩
        have hz : (digitF { N with behind := N.behind + 1 } (r - 48).toNat).zeros ≤ k + 1 := by
          unfold digitF
          split
          · simp
          · split <;> simp <;> omega
        refine ⟨this.1, hz, ?_, ?_⟩
        · rw [this.2.2.1]; simp; omega
        · rw [this.2.2.2]; exact h4
      · exact ⟨h1, by omega, by omega, h4⟩
    · split
      · have := digitF_small (N := N) (k := k) (d := (r - 48).toNat) ⟨h1, h2, h3, h4⟩
        exact ⟨this.1, this.2.1, by rw [this.2.2.1]; omega, by rw [this.2.2.2]; exact h4⟩
      · split
        · exact ⟨h1, by simp; omega, by simp; omega, h4⟩
        · split
          · rename_i h7
            have := hr h7
            split
            · exact ⟨h1, by simp; omega, by simp; omega, by simp; omega⟩
            · exact ⟨h1, by omega, by omega, h4⟩
          · exact ⟨h1, by omega, by omega, h4⟩

theorem take_any (b : Nat) (N : Num) (a : Nat) (r : Int) (w : World) (k : Nat) (hB : Row w b 41 N.cells) (hk : k < 4294967296) (hN : Small N k) (ha : a ≤ 8) (hr : a = 2 ∨ a = 7 → 48 ≤ r ∧ r ≤ 57) :
    Calls Tryd.prog 22 #[.pointer (some ⟨b, 0, none⟩), .int .i64 a, .int .i32 r] w fun e w' => e = .returned (.tuple #[]) ∧ Row w' b 41 (takeF N a r).cells ∧ w.grownBy w' (some b) := by
  obtain ⟨h1, h2, h3, h4⟩ := hN
  have h9 : a = 1 ∨ a = 2 ∨ a = 4 ∨ a = 6 ∨ a = 7 ∨ (a = 0 ∨ a = 3 ∨ a = 5 ∨ a = 8) := by omega
  rcases h9 with rfl | rfl | rfl | rfl | rfl | h
  · exact take_sign b N r w hB
  · have := hr (Or.inl rfl); exact take_whole b N r w hB (by omega) h1 this.1 this.2
  · cases hd : isDigitB r with
    | false => exact take_point b N r w hB hd
    | true =>
      have hd' : 48 ≤ r ∧ r ≤ 57 := by simpa [isDigitB] using hd
      exact take_part b N r w hB (by omega) (by omega) h1 hd'.1 hd'.2
  · exact take_less b N r w hB
  · have := hr (Or.inr rfl); exact take_power b N r w hB this.1 this.2
  · exact take_none b N r w a h hB
end Go.Proofs.YtmbdggbppbkojaaDoor
