/- What the program's Labels and Name must answer. -/
import Derived.Test.YtnbghappfclnjaaCfTlabs
import Derived.Test.YtnbghappfclnjaaCfBox
namespace Go.Proofs.Ytnbghappfclnjaa
open Go.RowKit

/-- The two labels' cells. -/
def TlAt (w : World) (g : Nat) (t : Tg) : Prop := w.cell? ⟨g, 0, none⟩ = some (.string ⟨#[105, 110, 115, 116, 97, 110, 99, 101]⟩) ∧ w.cell? ⟨g, 1, none⟩ = some (.string t.host) ∧ w.cell? ⟨g, 2, none⟩ = some (.string ⟨#[106, 111, 98]⟩) ∧ w.cell? ⟨g, 3, none⟩ = some (.string t.job)
theorem TlAt.keep {w w' : World} {B g : Nat} {t : Tg} (h : TlAt w g t) (hb : Below B w w') (hB : g < B) : TlAt w' g t :=
  ⟨(hb.cell hB).trans h.1, (hb.cell hB).trans h.2.1, (hb.cell hB).trans h.2.2.1, (hb.cell hB).trans h.2.2.2⟩
def LabelsP : Prop := ∀ (t : Tg) (W : World), t.job.size ≤ 6000 → t.host.size ≤ 6000 → Calls Try.prog 12 #[t.val] W fun e w' => (∃ g cap, e = .returned (.slice (some ⟨g, 0, none⟩) 2 cap) ∧ g < w'.heap.size ∧ TlAt w' g t) ∧ Below W.heap.size W w'
def NameP13 : Prop := ∀ (m : ByteArray) (t : Tg) (W : World), m.size ≤ 3000 → t.job.size ≤ 3000 → t.host.size ≤ 3000 → Calls Try.prog 13 #[.string m, t.val] W fun e w' => e = .returned (.string ⟨(nameS (nameP m.data.toList (tlabs t))).toArray⟩) ∧ Below W.heap.size W w'
end Go.Proofs.Ytnbghappfclnjaa
