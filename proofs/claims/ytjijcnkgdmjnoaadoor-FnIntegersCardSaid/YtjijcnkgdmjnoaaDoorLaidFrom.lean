/- From what a row lists of the package-level variables to what the walks take. -/
import Derived.Test.YtjijcnkgdmjnoaaDoorLaid
import Derived.LaidSub
import Derived.Stop.LaidErr
namespace Go.Proofs.YtjijcnkgdmjnoaaDoor
open Go.RowKit
theorem var_lt {P : Program} {W : World} {n : String} {g : Nat} {cs : Array Value} (hg : P.globalNamed n = some g) (h : W.var? P n = some cs) : g < W.heap.size := by
  unfold World.var? at h
  simp only [hg, Option.bind_some] at h
  rcases Nat.lt_or_ge g W.heap.size with h' | h'
  · exact h'
  · simp [Array.getElem?_eq_none h'] at h
theorem laid_one {P : Program} {W : World} {l : List (String × DataW Unit)} {n : String} {d : DataW Unit} (h : laidMet P l W) (e : l.filter (fun x => x.1 == n) = [(n, d)]) : laidMet P [(n, d)] W := by
  rw [← e]; exact h.filter _
theorem tPow : (Tryd.prog.globals[2]?).map (·.type) = some 78 := by kernel_rfl
theorem tab_of {l : List (String × DataW Unit)} {W : World} (h : laidMet Tryd.prog l W) (e : l.filter (fun x => x.1 == "internal/strconv.uint64pow10") = [("internal/strconv.uint64pow10", Lib.tabData .u64 Lib.pow10Tab)]) : HasTab W := by
  have h1 : Lib.TabIs Tryd.prog W "internal/strconv.uint64pow10" .u64 Lib.pow10Tab := Lib.tabIs_of_head (rest := []) gPow tPow Tryd.underlying78 Tryd.underlying59 (by kernel_rfl) (by kernel_rfl) (laid_one h e)
  exact ⟨h1, var_lt gPow h1⟩
theorem tErr : (Tryd.prog.globals[0]?).map (·.type) = some 41 := by kernel_rfl
theorem tErr2 : (Tryd.prog.globals[1]?).map (·.type) = some 41 := by kernel_rfl
theorem star : "*" ++ "errors.errorString" = "*errors.errorString" := by decide
theorem rowErr (u : TypeId) (h : Tryd.prog.typeName? 3 u = some "*errors.errorString") : u = 73 :=
  typeName_ptr_named (nm := "errors.errorString") (by rw [star]; kernel_rfl) (by kernel_rfl) (by decide) u (by rw [star]; exact h)
theorem errs_of {l : List (String × DataW Unit)} {W : World} {x y : List UInt8} (h : laidMet Tryd.prog l W) (e : l.filter (fun x => x.1 == "strconv.ErrSyntax") = [("strconv.ErrSyntax", .iface "*errors.errorString" (.ptr (.agg [.lit (.string x)])))]) (e2 : l.filter (fun x => x.1 == "strconv.ErrRange") = [("strconv.ErrRange", .iface "*errors.errorString" (.ptr (.agg [.lit (.string y)])))]) : HasErrs W := by
  obtain ⟨a0, s0, hv0, -, -, -⟩ := laid_sentinel (laid_one h e) gSyn tErr Tryd.underlying41 rowErr Tryd.underlying73 Tryd.underlying75 rfl rfl Tryd.underlying9 (by kernel_rfl) (by kernel_rfl)
  obtain ⟨a1, s1, hv1, -, -, -⟩ := laid_sentinel (laid_one h e2) gRan tErr2 Tryd.underlying41 rowErr Tryd.underlying73 Tryd.underlying75 rfl rfl Tryd.underlying9 (by kernel_rfl) (by kernel_rfl)
  exact ⟨⟨_, _, hv0⟩, ⟨_, _, hv1⟩, var_lt gSyn hv0, var_lt gRan hv1⟩
end Go.Proofs.YtjijcnkgdmjnoaaDoor
