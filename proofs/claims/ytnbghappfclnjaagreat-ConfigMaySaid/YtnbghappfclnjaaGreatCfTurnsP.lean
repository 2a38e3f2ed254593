/- What the program's Offset, Due and Turns must answer. -/
import Derived.Test.YtnbghappfclnjaaGreatCfPlain
import Derived.Test.YtnbghappfclnjaaGreatCfBox
namespace Go.Proofs.YtnbghappfclnjaaGreat
open Go.RowKit

def Tg.in1 (t : Tg) : Prop := 1 ≤ t.iv ∧ t.iv ≤ 1073741824
instance (t : Tg) : Decidable t.in1 := inferInstanceAs (Decidable (_ ∧ _))
def clipN (n : Int) : Nat := (min (max n 0) 1125899906842624).toNat
theorem clipN_le (n : Int) : clipN n ≤ 1125899906842624 := by unfold clipN; omega
theorem clipN_eq (n : Int) : ((clipN n : Nat) : Int) = min (max n 0) 1125899906842624 := by unfold clipN; omega
theorem clipN_nat {n : Nat} (h : n ≤ 1125899906842624) : clipN n = n := by unfold clipN; omega
def Tg.offC (t : Tg) : Nat := if t.in1 then t.off else 0
def Tg.dueC (t : Tg) (n : Int) : Nat := if t.in1 then dueN t.iv.toNat t.off (clipN n) else 0
def Tg.turnsC (t : Tg) (a b : Int) : Nat := if t.in1 then (dueN t.iv.toNat t.off (clipN b) - dueN t.iv.toNat t.off (clipN a)) / t.iv.toNat else 0
def OffP : Prop := ∀ (t : Tg) (W : World), t.size ≤ 6000 → Calls Tryz.prog 30 #[t.val] W fun e w' => e = .returned (.int .i64 (t.offC : Nat)) ∧ Below W.heap.size W w'
def DueP : Prop := ∀ (t : Tg) (n : Int) (W : World), t.size ≤ 6000 → Calls Tryz.prog 10 #[t.val, .int .i64 n] W fun e w' => e = .returned (.int .i64 (t.dueC n : Nat)) ∧ Below W.heap.size W w'
def TurnsP : Prop := ∀ (t : Tg) (a b : Int) (W : World), t.size ≤ 6000 → Calls Tryz.prog 11 #[t.val, .int .i64 a, .int .i64 b] W fun e w' => e = .returned (.int .i64 (t.turnsC a b : Nat)) ∧ Below W.heap.size W w'

end Go.Proofs.YtnbghappfclnjaaGreat
