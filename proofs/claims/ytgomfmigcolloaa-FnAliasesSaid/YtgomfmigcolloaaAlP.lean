/- Chapter 11, the program's: all five. -/
import Derived.Test.YtgomfmigcolloaaAlP8
import Derived.Test.YtgomfmigcolloaaAlS
import Derived.Test.YtgomfmigcolloaaDraw
namespace Go.Proofs.Ytgomfmigcolloaa
end Go.Proofs.Ytgomfmigcolloaa
