/- The document's Set, whole. -/
import Derived.Test.YtaepgcicgmbbeaaWhRSetA
import Derived.Test.YtaepgcicgmbbeaaWhRSetB
import Derived.Test.YtaepgcicgmbbeaaWhRSetC
namespace Go.Proofs.Ytaepgcicgmbbeaa
open Go.RowKit

theorem rset_yes {B : Nat} {w : World} {rv : Nat} {A : Option Addr} {c : Nat} {T : Int} {L : List Fi} (h : RefW B w rv A c T L) (hi : Ids L) (hL : L.length ≤ 900) (id at' : Int) (hn : ¬ (at' < T ∨ 1125899906842624 < at')) :
    Calls Try.prog 22 #[.pointer (some ⟨rv, 0, none⟩), .int .i64 id, .int .i64 at'] w (RefP B w rv A T (insL (id, at') (canL id L)) (.int .i64 0)) := by
  cases hf : (canL id L).find? (fun z => !ltF z (id, at')) with
  | none => exact rset_A h hi hL id at' hn hf
  | some z =>
    by_cases hz : z.2 = at'
    · exact rset_B h hi hL id at' hn ⟨z, hf, hz⟩
    · exact rset_C h hi hL id at' hn ⟨z, hf, hz⟩
end Go.Proofs.Ytaepgcicgmbbeaa
