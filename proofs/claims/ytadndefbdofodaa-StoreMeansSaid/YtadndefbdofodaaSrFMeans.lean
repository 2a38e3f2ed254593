/- StoreMeans: each sample has one verdict, times of accepted ones rise, and there are never more series than there is room for: at every input. No condition of our own. -/
import Derived.Test.YtadndefbdofodaaStoreMeans
import Derived.Test.YtadndefbdofodaaSrInst
namespace Go.Proofs.Ytadndefbdofodaa

theorem storeMeans.holds : Rows.StoreMeansSaid := storeMeans.holds_of srC
#print axioms storeMeans.holds
end Go.Proofs.Ytadndefbdofodaa
