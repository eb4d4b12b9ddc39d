/- From what a row lists of the package-level variables to what the walks take. -/
import Derived.Test.YtbclnklejleobaaDoorLaid
import Derived.LaidSub
import Derived.Stop.LaidErr
namespace Go.Proofs.YtbclnklejleobaaDoor
open Go.RowKit
theorem var_lt {P : Program} {W : World} {n : String} {g : Nat} {cs : Array Value} (hg : P.globalNamed n = some g) (h : W.var? P n = some cs) : g < W.heap.size := by
  unfold World.var? at h
  simp only [hg, Option.bind_some] at h
  rcases Nat.lt_or_ge g W.heap.size with h' | h'
  · exact h'
  · simp [Array.getElem?_eq_none h'] at h
theorem laid_one {P : Program} {W : World} {l : List (String × DataW Unit)} {n : String} {d : DataW Unit} (h : laidMet P l W) (e : l.filter (fun x => x.1 == n) = [(n, d)]) : laidMet P [(n, d)] W := by
  rw [← e]; exact h.filter _
theorem tPow : (Tryd.prog.globals[1]?).map (·.type) = some 59 := by kernel_rfl
theorem tab_of {l : List (String × DataW Unit)} {W : World} (h : laidMet Tryd.prog l W) (e : l.filter (fun x => x.1 == "internal/strconv.uint64pow10") = [("internal/strconv.uint64pow10", Lib.tabData .u64 Lib.pow10Tab)]) : HasTab W := by
  have h1 : Lib.TabIs Tryd.prog W "internal/strconv.uint64pow10" .u64 Lib.pow10Tab := Lib.tabIs_of_head (rest := []) gPow tPow Tryd.underlying59 Tryd.underlying52 (by kernel_rfl) (by kernel_rfl) (laid_one h e)
  exact ⟨h1, var_lt gPow h1⟩
theorem star : "*" ++ "errors.errorString" = "*errors.errorString" := by decide
end Go.Proofs.YtbclnklejleobaaDoor
