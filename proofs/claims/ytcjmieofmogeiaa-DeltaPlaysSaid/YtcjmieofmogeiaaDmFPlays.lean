/- DeltaPlays: the statement, at every input: scrape by scrape the program's meter and the document's answer alike. No condition of our own. -/
import Derived.Test.YtcjmieofmogeiaaDeltaPlays
import Derived.Test.YtcjmieofmogeiaaDmInst
namespace Go.Proofs.Ytcjmieofmogeiaa

theorem deltaPlays.holds : Rows.DeltaPlaysSaid := deltaPlays.holds_of dmC
#print axioms deltaPlays.holds
end Go.Proofs.Ytcjmieofmogeiaa
