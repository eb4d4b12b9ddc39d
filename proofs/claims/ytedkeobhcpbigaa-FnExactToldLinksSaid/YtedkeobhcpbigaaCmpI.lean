/- cmp.Compare of two integers. -/
import Derived.Test.YtedkeobhcpbigaaIntW
import Derived.Test.YtedkeobhcpbigaaSlA
namespace Go.Proofs.Ytedkeobhcpbigaa
open Go.RowKit
end Go.Proofs.Ytedkeobhcpbigaa
