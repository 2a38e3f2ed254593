/- WindowPlays: the statement, at every input: act by act the program and the document answer alike. No condition of our own. -/
import Derived.Test.YtjkkpdflijjllaaWindowPlays
import Derived.Test.YtjkkpdflijjllaaWiInst
namespace Go.Proofs.Ytjkkpdflijjllaa

theorem windowPlays.holds : Rows.WindowPlaysSaid := windowPlays.holds_of wiC
#print axioms windowPlays.holds
end Go.Proofs.Ytjkkpdflijjllaa
