/- Slices of slices of integers, larger ones: compare, mark, look for the marks. -/
import Derived.Test.YtjckcggjmcaaoaaSlA
namespace Go.Proofs.Ytjckcggjmcaaoaa
open Go.RowKit
def SmallW (ms : List (List Int)) : Prop := ms.length + tot ms ms.length ≤ 8388608
theorem SmallW.row {ms : List (List Int)} (h : SmallW ms) {r : Nat} (hr : r < ms.length) : tot ms r + (row ms r).length ≤ 8388608 := by
  have := tot_mono ms (show r + 1 ≤ ms.length by omega)
  unfold SmallW at h
  simp only [tot] at this
  omega
theorem tot_cap {ms : List (List Int)} {n : Nat} (h : ∀ i, i < ms.length → (row ms i).length ≤ n) : ∀ k, k ≤ ms.length → tot ms k ≤ k * n
  | 0, _ => by simp [tot]
  | k + 1, hk => by
    have := tot_cap h k (by omega)
    have := h k (by omega)
    simp only [tot]
    rw [Nat.succ_mul]
    omega
end Go.Proofs.Ytjckcggjmcaaoaa
