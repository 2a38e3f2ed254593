/- DeltaAdds: the statement, at every input: the gains of a chain add up to what the last value is above the first, and, for each reset, the value ahead of it. No condition of our own. -/
import Derived.Test.YtcjmieofmogeiaaDeltaAdds
import Derived.Test.YtcjmieofmogeiaaDmInst
namespace Go.Proofs.Ytcjmieofmogeiaa

theorem deltaAdds.holds : Rows.DeltaAddsSaid := deltaAdds.holds_of dmC
#print axioms deltaAdds.holds
end Go.Proofs.Ytcjmieofmogeiaa
