/- Chapter 13, the program's: all. -/
import Derived.Test.YtbjjgcfmdlinaaaTrP1
import Derived.Test.YtbjjgcfmdlinaaaTrP5
import Derived.Test.YtbjjgcfmdlinaaaTrP6
