/- StoreCopies: a copy goes on apart, and which stores are the same: at every input. No condition of our own. -/
import Derived.Test.YtadndefbdofodaaStoreCopies
import Derived.Test.YtadndefbdofodaaSrInst
namespace Go.Proofs.Ytadndefbdofodaa

theorem storeCopies.holds : Rows.StoreCopiesSaid := storeCopies.holds_of srC
#print axioms storeCopies.holds
end Go.Proofs.Ytadndefbdofodaa
