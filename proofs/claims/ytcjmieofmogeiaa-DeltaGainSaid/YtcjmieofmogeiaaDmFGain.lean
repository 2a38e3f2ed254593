/- DeltaGain: the statement, at every input: the gain of any value behind any other one is the document's. No condition of our own. -/
import Derived.Test.YtcjmieofmogeiaaDeltaGain
import Derived.Test.YtcjmieofmogeiaaDmInst
namespace Go.Proofs.Ytcjmieofmogeiaa

theorem deltaGain.holds : Rows.DeltaGainSaid := deltaGain.holds_of dmC
#print axioms deltaGain.holds
end Go.Proofs.Ytcjmieofmogeiaa
