/- How long routes and rows are. -/
import Derived.Test.YtjckcggjmcaaoaaRouR
import Derived.Test.YtjckcggjmcaaoaaNetL
namespace Go.Proofs.Ytjckcggjmcaaoaa
open Go.RowKit
theorem best_short {m : Nat} {ls : List (Int × Int)} {a b : Int} {p : List Int} (he : Ends m ls) (ha : 0 ≤ a ∧ a < (m : Int)) (h : Best ls a b p) : p.length < m := by
  obtain ⟨q, hq, hl⟩ := shorten he p.length p a b (Nat.le_refl _) ha h.1
  have := sle_len (h.2 q hq)
  omega
theorem route_len (n : Int) (ls : List (Int × Int)) (a b : Int) : (routeV n ls a b).length ≤ 8 := by
  cases h : askR n ls a b
  · rw [route_no h]; exact Nat.zero_le _
  · obtain ⟨m, x, y, rfl, rfl, rfl, _, h8, hx, _, _, _, he⟩ := ask_true h
    by_cases hex : ∃ p, Best ls (x : Int) (y : Int) p
    · obtain ⟨p, hp⟩ := hex
      rw [route_best h hp]
      have := best_short he ⟨by omega, by omega⟩ hp
      omega
    · unfold routeV
      rw [if_pos h, dif_neg hex]
      exact Nat.zero_le _
theorem rowA_len (p : List Int) (n : Int) : (rowA p n).length ≤ 6 := by
  unfold rowA
  split
  · rename_i h
    have := inR_true.1 h
    rw [rowL_len]
    omega
  · exact Nat.zero_le _
end Go.Proofs.Ytjckcggjmcaaoaa
