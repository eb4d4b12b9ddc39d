/- The program's functions of chapter 14. -/
import Derived.Test.YtedkeobhcpbigaaToP1
import Derived.Test.YtedkeobhcpbigaaToP2
import Derived.Test.YtedkeobhcpbigaaToP4
namespace Go.Proofs.Ytedkeobhcpbigaa
end Go.Proofs.Ytedkeobhcpbigaa
