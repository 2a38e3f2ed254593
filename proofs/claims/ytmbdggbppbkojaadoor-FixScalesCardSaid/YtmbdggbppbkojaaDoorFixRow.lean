/- What the rows' list gives the walks: the table unicode.asciiFold. -/
import Derived.Test.YtmbdggbppbkojaaDoorCards
import Derived.Test.YtmbdggbppbkojaaDoorTie
import Derived.Test.YtmbdggbppbkojaaDoorFixKnown
import Derived.WalkKit
import Derived.ProofKit
import Derived.OpenShut
import Derived.LaidMore
import Derived.Lay
import Derived.SevenTiedAt
import Derived.Stop.Joined
import Derived.Lib.LaidTab
import Derived.Lib.LaidU8
namespace Go.Proofs.YtmbdggbppbkojaaDoor
open Go.ChangeShapes Go.WideShapes Go.ChangeAt Go.RowKit

theorem own : ownKnob Tryd.prog.godebug = none := by kernel_rfl
def foldZs : List Int := [0, 1, 2, 3, 4, 5, 6, 7, 8, 9, 10, 11, 12, 13, 14, 15, 16, 17, 18, 19, 20, 21, 22, 23, 24, 25, 26, 27, 28, 29, 30, 31, 32, 33, 34, 35, 36, 37, 38, 39, 40, 41, 42, 43, 44, 45, 46, 47, 48, 49, 50, 51, 52, 53, 54, 55, 56, 57, 58, 59, 60, 61, 62, 63, 64, 97, 98, 99, 100, 101, 102, 103, 104, 105, 106, 107, 108, 109, 110, 111, 112, 113, 114, 115, 116, 117, 118, 119, 120, 121, 122, 91, 92, 93, 94, 95, 96, 65, 66, 67, 68, 69, 70, 71, 72, 73, 74, 8490, 76, 77, 78, 79, 80, 81, 82, 383, 84, 85, 86, 87, 88, 89, 90, 123, 124, 125, 126, 127]
theorem fold_data : (Rows.laid_unicode_asciiFold : DataW Unit) = Lib.tabData .u16 foldZs := by kernel_rfl
theorem fold_look : ((List.range 128).all fun c => !(decide (97 ≤ c ∧ c ≤ 122 ∧ c ≠ 107 ∧ c ≠ 115)) || (foldZs[c]? == some ((c : Int) - 32) && foldZs[c - 32]? == some (c : Int))) = true := by decide +kernel

theorem fold_of_laid {l : List (String × DataW Unit)} (hm : ("unicode.asciiFold", Rows.laid_unicode_asciiFold) ∈ l) {W : World} (h : laidMet Tryd.prog l W) : FoldTab W ∧ 2 < W.heap.size := by
  obtain ⟨g, t, cs, fuel, p, hg, ht, hv, hd⟩ := Lib.laidMet.reads h hm
  obtain rfl := Option.some.inj ((show Tryd.prog.globalNamed "unicode.asciiFold" = some 2 by kernel_rfl).symm.trans hg)
  obtain rfl := Option.some.inj ((show (Tryd.prog.globals[2]?).map (·.type) = some 100 by kernel_rfl).symm.trans ht)
  rw [fold_data] at hd
  have hcs := Lib.cells_of_tab Tryd.underlying100 Tryd.underlying99 (by kernel_rfl) (by kernel_rfl) hd
  have hcell : ∀ (i : Nat) (z : Int), foldZs[i]? = some z → W.cell? ⟨2, i, none⟩ = some (.int .u16 z) := fun i z hz => by
    rw [World.var?_cell hg hv i]
    have : cs.toList[i]? = some (.int .u16 z) := by rw [hcs]; simp [hz]
    simpa using this
  have htab : FoldTab W := fun c hc => by
    obtain ⟨h1, h2, h3, h4⟩ := hc
    have := List.all_eq_true.1 fold_look c (List.mem_range.2 (by omega))
    simp [h1, h2, h3, h4] at this
    exact ⟨hcell _ _ this.1, hcell _ _ this.2⟩
  refine ⟨htab, ?_⟩
  have := (htab 97 ⟨by omega, by omega, by omega, by omega⟩).1
  rcases Nat.lt_or_ge 2 W.heap.size with hl | hl
  · exact hl
  · simp [World.cell?, Array.getElem?_eq_none hl] at this
end Go.Proofs.YtmbdggbppbkojaaDoor
