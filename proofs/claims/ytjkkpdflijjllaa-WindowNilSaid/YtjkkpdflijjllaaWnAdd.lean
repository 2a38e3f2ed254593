/- The document's Add, whole. -/
import Derived.Test.YtjkkpdflijjllaaWnAddA
import Derived.Test.YtjkkpdflijjllaaWnAddC
import Derived.Test.YtjkkpdflijjllaaWnAddD
import Derived.Test.YtjkkpdflijjllaaWnAddE
namespace Go.Proofs.Ytjkkpdflijjllaa
open Go.RowKit

theorem raddW_any {B : Nat} {w : World} {rv : Nat} {G : List Nat} {v : Value} {S : Ws} {N : Nat} (h : RefW B w rv G v S) (hB : B ≤ w.heap.size) (hok : WsOk S N) (hN : N ≤ 40000) (name : ByteArray) (tm inc : Int) (rs : Bool) (hi : -9223372036854775808 ≤ inc ∧ inc ≤ 9223372036854775807) (ht0 : -9223372036854775808 ≤ tm ∧ tm ≤ 9223372036854775807) :
    Calls Try.prog 28 #[.pointer (some ⟨rv, 0, none⟩), .agg #[.string name, .int .i64 tm, .int .i64 inc, .bool rs]] w fun e w' => ∃ o v' G' H, e = .returned (.tuple #[.bool (addW S name tm inc).1, o]) ∧ WnL w' H o (addW S name tm inc).2.1 ∧ RefW B w' rv G' v' (addW S name tm inc).2.2 ∧ Turns [rv] w w' ∧ (∀ i ∈ G', i ∈ G ∨ w.heap.size ≤ i) ∧ ∀ i ∈ H, i ∈ G ∨ w.heap.size ≤ i := by
  by_cases hA : lateW S tm inc = true ∨ (fullW S (Int.tdiv tm S.len) = true ∧ posW (Int.tdiv tm S.len) S.L = 0)
  · exact raddW_late h hB hok hN name tm inc rs hi ht0 hA
  · cases hf : fullW S (Int.tdiv tm S.len) with
    | true => exact raddW_full h hB hok hN name tm inc rs hi ht0 ⟨hA, hf⟩
    | false =>
      cases hs : isW (Int.tdiv tm S.len) S.L with
      | true => exact raddW_is h hB hok hN name tm inc rs hi ht0 ⟨hA, hf, hs⟩
      | false => exact raddW_new h hB hok hN name tm inc rs hi ht0 ⟨hA, hf, hs⟩
end Go.Proofs.Ytjkkpdflijjllaa
