/- Chapter 11, the program's: all five. -/
import Derived.Test.YtgninjdnfidpcaaAlP8
import Derived.Test.YtgninjdnfidpcaaAlS
import Derived.Test.YtgninjdnfidpcaaDraw
namespace Go.Proofs.Ytgninjdnfidpcaa
end Go.Proofs.Ytgninjdnfidpcaa
