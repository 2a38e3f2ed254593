/- DeltaCopies: the statement, at every input: a copy goes on apart, and which are the same is told as the document tells it. No condition of our own. -/
import Derived.Test.YtcjmieofmogeiaaDeltaCopies
import Derived.Test.YtcjmieofmogeiaaDmInst
namespace Go.Proofs.Ytcjmieofmogeiaa

theorem deltaCopies.holds : Rows.DeltaCopiesSaid := deltaCopies.holds_of dmC
#print axioms deltaCopies.holds
end Go.Proofs.Ytcjmieofmogeiaa
