/- WindowSums: the statement, at every input: increases saturate, and stay marked. No condition of our own. -/
import Derived.Test.YtjkkpdflijjllaaWindowSums
import Derived.Test.YtjkkpdflijjllaaWiInst
namespace Go.Proofs.Ytjkkpdflijjllaa

theorem windowSums.holds : Rows.WindowSumsSaid := windowSums.holds_of wiC
#print axioms windowSums.holds
end Go.Proofs.Ytjkkpdflijjllaa
