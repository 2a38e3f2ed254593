/- StorePlays: the statement, at every input: the document's store and the program's answer alike, scrape by scrape. No condition of our own. -/
import Derived.Test.YtadndefbdofodaaStorePlays
import Derived.Test.YtadndefbdofodaaSrInst
namespace Go.Proofs.Ytadndefbdofodaa

theorem storePlays.holds : Rows.StorePlaysSaid := storePlays.holds_of srC
#print axioms storePlays.holds
end Go.Proofs.Ytadndefbdofodaa
