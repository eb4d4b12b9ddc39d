/- What the laws on systems want besides: arguments that are slices of fractions; how long solutions are. -/
import Derived.Test.YtgcgdgbogamlnaaSysV
namespace Go.Proofs.Ytgcgdgbogamlnaa
open Go.RowKit
/-- What a law's walk is told of an argument. -/
def IsRats (w : World) (a : Option Addr) (len : Nat) (xs : List (Int × Int)) : Prop := SeesR w a len xs ∧ len ≤ maxLen
theorem isRats_nil (w : World) (a : Option Addr) : IsRats w a 0 [] := ⟨⟨rfl, (fun _ h => by cases h), .inl rfl⟩, Nat.zero_le _⟩
theorem seesR_open {w : World} {a : Addr} {len : Nat} {X Y : Nat → Int} (h : ∀ i, i < len → w.cell? (a.add (i * 2)) = some (.int .i64 (X i)) ∧ w.cell? (a.add (i * 2 + 1)) = some (.int .i64 (Y i)) ∧ (Lit.int .i64 (X i)).wf = true ∧ (Lit.int .i64 (Y i)).wf = true) :
    SeesR w (some a) len ((List.range len).map fun i => (X i, Y i)) := by
  refine ⟨by simp, fun p hp => ?_, ?_⟩
  · obtain ⟨i, hi, rfl⟩ := List.mem_map.1 hp
    exact (h i (List.mem_range.1 hi)).2.2
  · rcases Nat.eq_zero_or_pos len with h0 | h0
    · exact .inl h0
    · obtain ⟨b, off, spot⟩ := a
      have hs : spot = none := by simpa [Addr.add] using World.cell?_spot (h 0 h0).1
      subst hs
      have h1 := (h 0 h0).1
      rw [add_plain] at h1
      refine .inr ⟨b, off, rfl, World.block_lt_of_cell? w _ h1, fun j hj => ?_⟩
      obtain ⟨g1, g2, _⟩ := h j hj
      rw [add_plain] at g1 g2
      have e : ((List.range len).map fun i => (X i, Y i)).getD j (0, 0) = (X j, Y j) := by simp [List.getD, hj]
      rw [e]
      exact ⟨g1, by rw [Nat.add_assoc]; exact g2⟩
theorem solL_le (ms : List (List Int)) (vs : List Int) (cols : Int) : (solL ms vs cols).length ≤ 6 := by
  unfold solL
  split
  · rename_i h
    obtain ⟨q, rfl⟩ := sys_nat (solv_sys h)
    rw [solAt_len, Int.toNat_natCast]
    exact (aug_ok (solv_sys h)).fine.q6
  · exact Nat.zero_le _
end Go.Proofs.Ytgcgdgbogamlnaa
