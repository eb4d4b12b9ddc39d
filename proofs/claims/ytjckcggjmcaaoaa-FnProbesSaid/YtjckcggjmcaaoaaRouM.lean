/- The model's route. -/
import Derived.Test.YtjckcggjmcaaoaaRouA
namespace Go.Proofs.Ytjckcggjmcaaoaa
open Go.RowKit
theorem made_blk {W w : World} {g len cap : Nat} {zs : List Int} (h : OwnB w g len cap zs) (hg : W.heap.size ≤ g) (hb : Below W.heap.size W w) : Made .i64 3 zs W (.returned (.slice (some ⟨g, 0, none⟩) len cap)) w :=
  ⟨_, _, _, rfl, Own.wide h hg h.lt (Nat.le_refl _), hb⟩
theorem ask_net {n : Int} {ls : List (Int × Int)} {x y : Int} (h : netB n ls = false) : askR n ls x y = false := by unfold askR; rw [h]; rfl
theorem ask_from {n : Int} {ls : List (Int × Int)} {x y : Int} (h : inR x 0 (n - 1) = false) : askR n ls x y = false := by unfold askR; rw [h]; simp
theorem ask_to {n : Int} {ls : List (Int × Int)} {x y : Int} (h : inR y 0 (n - 1) = false) : askR n ls x y = false := by unfold askR; rw [h]; simp
theorem ask_yes {n : Int} {ls : List (Int × Int)} {x y : Int} (h1 : netB n ls = true) (h2 : inR x 0 (n - 1) = true) (h3 : inR y 0 (n - 1) = true) : askR n ls x y = true := by unfold askR; rw [h1, h2, h3]; rfl
theorem neg_next (k : Nat) : List.replicate k (-1 : Int) ++ [-1] = List.replicate (k + 1) (-1) := (List.replicate_succ' ..).symm
theorem repl_getD {k j : Nat} (h : j < k) : (List.replicate k (-1 : Int)).getD j 0 = -1 := by simp [List.getD, h]
end Go.Proofs.Ytjckcggjmcaaoaa
