/- The document's one: a sample, of whatever series. -/
import Derived.Test.YtadndefbdofodaaStNew
import Derived.Test.YtadndefbdofodaaStOne
namespace Go.Proofs.Ytadndefbdofodaa
open Go.RowKit

theorem rone_any {B : Nat} {w : World} {rv : Nat} {v : Value} {most : Nat} {L : List One} (h : RefS B w rv v most L) (hB : B ≤ w.heap.size) (hL : L.length ≤ 90000) (owner : Int) (x : Smp) :
    Calls Try.prog 27 #[.pointer (some ⟨rv, 0, none⟩), .int .i64 owner, x.val'] w (OneR B w rv v most (oneP most owner x L)) := by
  cases hi : ofN x.name L with
  | none =>
    by_cases hm : most ≤ L.length
    · exact rone_full h hB (by omega) owner x hi hm
    · exact rone_new h hB hL owner x hi hm
  | some i => exact rone_old h hB (by omega) owner x hi
end Go.Proofs.Ytadndefbdofodaa
