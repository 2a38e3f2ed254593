/- WindowOnce: the statement, at every input: each gain is credited to one window, or late; windows close by rising numbers. No condition of our own. -/
import Derived.Test.YtjkkpdflijjllaaWindowOnce
import Derived.Test.YtjkkpdflijjllaaWiInst
namespace Go.Proofs.Ytjkkpdflijjllaa

theorem windowOnce.holds : Rows.WindowOnceSaid := windowOnce.holds_of wiC
#print axioms windowOnce.holds
end Go.Proofs.Ytjkkpdflijjllaa
