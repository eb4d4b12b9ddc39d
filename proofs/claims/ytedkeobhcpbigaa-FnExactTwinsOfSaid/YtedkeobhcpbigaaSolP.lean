/- Systems: the program's solution. -/
import Derived.Test.YtedkeobhcpbigaaSysR
import Derived.Test.YtedkeobhcpbigaaSlR
namespace Go.Proofs.Ytedkeobhcpbigaa
open Go.RowKit
theorem pMkV_any (n d x y : Int) (k : Bool) (w : World) (hn : IsI64 n) (hd : IsI64 d) (hx : x = mrN n d) (hy : y = mrD n d) (hk : k = mrOk n d) :
    Calls Try.prog 64 #[.int .i64 n, .int .i64 d] w (RatRes x y k w) := by
  subst hx hy hk
  exact mkRat_any n d w hn hd
theorem startV_of {z : List Int} (h : leadL z < z.length) : startV z = (leadL z : Int) := startV_lead h
end Go.Proofs.Ytedkeobhcpbigaa
