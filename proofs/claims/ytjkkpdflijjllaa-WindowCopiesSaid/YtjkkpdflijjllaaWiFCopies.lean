/- WindowCopies: the statement, at every input: a copy goes on apart, and which are the same is told as the document tells it. No condition of our own. -/
import Derived.Test.YtjkkpdflijjllaaWindowCopies
import Derived.Test.YtjkkpdflijjllaaWiInst
namespace Go.Proofs.Ytjkkpdflijjllaa

theorem windowCopies.holds : Rows.WindowCopiesSaid := windowCopies.holds_of wiC
#print axioms windowCopies.holds
end Go.Proofs.Ytjkkpdflijjllaa
