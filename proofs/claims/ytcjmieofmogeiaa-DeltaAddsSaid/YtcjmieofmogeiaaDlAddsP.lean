/- The gains of a chain add up, plainly. -/
import Derived.Test.YtcjmieofmogeiaaDlKnown
namespace Go.Proofs.Ytcjmieofmogeiaa
open Go.RowKit

def sumA (v : Nat → Int) : Nat → Int
  | 0 => 0
  | 1 => 0
  | k + 2 => sumA v (k + 1) + (gainL (v k) (v (k + 1))).1
def wantA (v : Nat → Int) : Nat → Int
  | 0 => 0
  | 1 => 0
  | k + 2 => wantA v (k + 1) + (if (gainL (v k) (v (k + 1))).2 then v k else 0)
theorem gainL_val {a x : Int} (ha : 0 ≤ a ∧ a < 1125899906842624) (hx : 0 ≤ x ∧ x < 1125899906842624) : gainL a x = if x < a then (x, true) else (x - a, false) := by
  unfold gainL
  by_cases h : x < a
  · rw [if_pos h, if_pos h, if_neg (by omega)]
  · rw [if_neg h, if_neg h, if_neg (by omega)]
theorem adds_in (v : Nat → Int) : ∀ k, (∀ j, j < k + 1 → 0 ≤ v j ∧ v j < 1125899906842624) → sumA v (k + 1) = wantA v (k + 1) + v k - v 0 ∧ 0 ≤ wantA v (k + 1) ∧ wantA v (k + 1) ≤ k * 1125899906842624
  | 0, h => by simp [sumA, wantA]
  | k + 1, h => by
    obtain ⟨h1, h2, h3⟩ := adds_in v k fun j hj => h j (by omega)
    have ha := h k (by omega)
    have hx := h (k + 1) (by omega)
    have hg := gainL_val ha hx
    simp only [sumA, wantA]
    rw [hg]
    by_cases hlt : v (k + 1) < v k
    · rw [if_pos hlt]
      simp only [if_true]
      omega
    · rw [if_neg hlt]
      simp only [Bool.false_eq_true, if_false]
      omega
def smA (v : Nat → Int) (k : Nat) : Smp := ⟨⟨#[97]⟩, v k, k, true⟩
def lsA (v : Nat → Int) : Nat → List One
  | 0 => []
  | k + 1 => [⟨⟨#[97]⟩, ⟨smA v k, true, 1⟩⟩]
def snA (v : Nat → Int) : Nat → Sn
  | 0 => ⟨smA v 0, 1, false, 0⟩
  | k + 1 => ⟨smA v (k + 1), 1, true, v k⟩
def gnA (v : Nat → Int) : Nat → List Gn
  | 0 => []
  | k + 1 => [⟨⟨#[97]⟩, ((k + 1 : Nat) : Int), (gainL (v k) (v (k + 1))).1, (gainL (v k) (v (k + 1))).2⟩]
theorem stepA (v : Nat → Int) : ∀ k, putP 1 1 [smA v k] (lsA v k) = ([snA v k], lsA v (k + 1)) ∧ gainsL [snA v k] = gnA v k
  | 0 => by refine ⟨?_, ?_⟩ <;> simp [putP, putsP, oneP, ofN, atN, lsA, smA, snA, nowL, staleB, amongB, eqN_self, gainsL, gnA, hasG]
  | k + 1 => by
    have h1 : ¬ ((k + 1 : Nat) : Int) < ((k : Nat) : Int) := by omega
    have h2 : ¬ ((k + 1 : Nat) : Int) = ((k : Nat) : Int) := by omega
    have h3 : ¬ ((k : Int) + 1 < (k : Int)) := by omega
    have h4 : ¬ ((k : Int) + 1 = (k : Int)) := by omega
    refine ⟨?_, ?_⟩ <;> simp [putP, putsP, oneP, ofN, atN, lsA, smA, snA, nowL, staleB, amongB, eqN_self, gainsL, gnA, hasG, gainS, h1, h2, h3, h4]
theorem smA_ok {v : Nat → Int} {k : Nat} (hk : k ≤ 1000) (hv : 0 ≤ v k ∧ v k < 1125899906842624) : (smA v k).Ok :=
  ⟨by show ([97] : List UInt8).toArray.size ≤ _; simp, ⟨by show _ ≤ v k; omega, by show v k ≤ _; omega⟩, by show _ ≤ (k : Int); omega, by show (k : Int) ≤ _; omega⟩
theorem lsA_ok {v : Nat → Int} {k : Nat} (hk : k ≤ 1000) (hv : ∀ j, j < k → 0 ≤ v j ∧ v j < 1125899906842624) : LOk (lsA v k) ∧ (lsA v k).length ≤ 1 := by
  cases k with
  | zero => exact ⟨fun y hy => (by cases hy), (by simp [lsA])⟩
  | succ k =>
    refine ⟨fun y hy => ?_, by simp [lsA]⟩
    rw [lsA, List.mem_singleton] at hy
    subst hy
    exact smA_ok (by omega) (hv k (by omega))
theorem lone_smA {X : World} (x : Int) (k : Nat) : sK.Reads (X.alloc (.cells #[.string ⟨#[97]⟩, .int .i64 x, .int .i64 (k : Int), .bool true] 52)) (X.alloc (.cells #[.string ⟨#[97]⟩, .int .i64 x, .int .i64 (k : Int), .bool true] 52)).heap.size (some ⟨X.heap.size, 0, none⟩) [⟨⟨#[97]⟩, x, k, true⟩] := by
  have := EK.Reads.lone sOk ⟨⟨#[97]⟩, x, (k : Int), true⟩ #[.string ⟨#[97]⟩, .int .i64 x, .int .i64 (k : Int), .bool true] 52 rfl (W := X) rfl
  rwa [show (X.alloc (.cells #[.string ⟨#[97]⟩, .int .i64 x, .int .i64 (k : Int), .bool true] 52)).heap.size = X.heap.size + 1 by simp]
def tK : EK Int := ⟨46, 2, 1, 8, .int .i64 0, fun x => [.int .i64 x]⟩
theorem tOk : tK.Ok Try.prog := ⟨Try.underlying46, by kernel_rfl, rfl, by decide, by decide, fun _ => rfl, fun x u hu => by simp [tK] at hu; rcases hu with rfl; rfl⟩
/-- What is read of values. -/
theorem vals_at {w : World} {A0 : Option Addr} {cs : List Int} (hr : tK.Reads w w.heap.size A0 cs) {k : Nat} (hk : k < cs.length) : ∃ g off, A0 = some ⟨g, off, none⟩ ∧ ∀ W, Turns [] w W → ∀ j, j < cs.length → W.cell? ⟨g, off + j, none⟩ = some (.int .i64 (cs.getD j 0)) := by
  rcases hr with h | ⟨g, off, rfl, hg, hc⟩
  · rw [h] at hk
    simp at hk
  · refine ⟨g, off, rfl, fun W ht j hj => (ht.cell hg (by simp) _).trans ?_⟩
    have := hc j (.int .i64 (cs.getD j 0)) (by
      have h1 : cs[j]? = some (cs.getD j 0) := by rw [List.getD_eq_getElem?_getD]; simp [hj]
      have := EK.flat_at tOk h1 0 (.int .i64 (cs.getD j 0)) rfl
      simpa [tK] using this)
    exact this
end Go.Proofs.Ytcjmieofmogeiaa
