/- Numbers of the call's own, sorted, and each kept once, by Go's library. -/
import Derived.Test.YtgninjdnfidpcaaShelf
import Derived.Test.YtgninjdnfidpcaaCmpG
import Derived.Lib.OwnBridge
import Derived.Sort.OwnSortedInts
namespace Go.Proofs.Ytgninjdnfidpcaa
open Go.RowKit Go.Sort
theorem holds_own {w : World} {g : Nat} {zs : List Int} (h : ∀ j, j < zs.length → w.cell? ⟨g, j, none⟩ = some (.int .i64 (zs.getD j 0))) (hf : ∀ j, w.frozen? ⟨g, j, none⟩ = false) : Holds (Value.int .i64) w g 0 zs.toArray := by
  intro j hj
  have hj2 : j < zs.length := by simpa using hj
  rw [Nat.zero_add, h j hj2]
  refine ⟨?_, hf j⟩
  simp [List.getD, hj2]
theorem sortP_any (W : World) (lo hi : Nat) (a : Option Addr) (len cap : Nat) (zs : List Int) (hl : len ≤ 1048576) (ho : Own .i64 3 W lo hi a len cap zs) :
    Calls Try.prog 89 #[.slice a len cap] W fun E w' => E = .returned (.tuple #[]) ∧ Own .i64 3 w' lo hi a len cap (sortI zs) ∧ Moved lo hi W w' := by
  have hz := ho.1
  by_cases h0 : len = 0
  · subst h0
    have e : zs = [] := List.eq_nil_of_length_eq_zero hz
    subst e
    refine (Try.slices_Sort_int_none a cap W).mono ?_
    rintro E w' ⟨rfl, rfl⟩
    exact ⟨rfl, by rw [show sortI [] = [] from List.eq_nil_of_length_eq_zero (sortI_len [])]; exact ho, Moved.refl _ _ _⟩
  · rcases ho.spot with ⟨_, h, _⟩ | ⟨g, rfl, hg0, hg1, hlc, hcm, hc, hf⟩
    · exact absurd h h0
    · subst hz
      refine (Try.slices_Sort_int g 0 cap zs W (holds_own hc hf) (Nat.lt_of_lt_of_le hg1 ho.2.2.1) (by omega)).mono ?_
      rintro E w' ⟨rfl, n, os, rfl⟩
      have hgr := grownBy_sortedI (w := W) (g := g) (n := n) (os := os) (sortI zs).toArray
      refine ⟨rfl, ⟨sortI_len zs, fun x hx => ho.2.1 x (sortI_mem.1 hx), Nat.le_trans ho.2.2.1 hgr.size, ?_, ho.2.2.2.2⟩, Moved.of_grown hgr hg0 hg1⟩
      rcases ho.2.2.2.1.2 with ⟨hv, _⟩ | ⟨g', c, cur, hv, hlo, hb, hnc, hcm2, hcs, htk⟩
      · cases hv
      · cases hv
        exact ownsRow_sortedI (sortI_len zs) hlo hb hnc hcm2 hcs
theorem compactP_any (W : World) (lo hi : Nat) (a : Option Addr) (len cap : Nat) (zs : List Int) (hl : len ≤ 1048576) (ho : Own .i64 3 W lo hi a len cap zs) :
    Calls Try.prog 90 #[.slice a len cap] W fun E w' => E = .returned (.slice a (Lib.compact zs).length cap) ∧ Own .i64 3 w' lo hi a (Lib.compact zs).length cap (Lib.compact zs) ∧ Moved lo hi W w' := by
  have hz := ho.1
  by_cases h0 : len = 0
  · subst h0
    have e : zs = [] := List.eq_nil_of_length_eq_zero hz
    subst e
    refine (Try.slices_Compact_int_empty a cap W).mono ?_
    rintro E w' ⟨rfl, rfl⟩
    exact ⟨rfl, ho, Moved.refl _ _ _⟩
  · rcases ho.spot with ⟨_, h, _⟩ | ⟨g, rfl, hg0, hg1, hlc, hcm, hc, hf⟩
    · exact absurd h h0
    · subst hz
      have hle := compact_len zs
      refine (Try.slices_Compact_int g 0 cap zs W (holds_own hc hf) (by omega) hlc).mono ?_
      rintro E w' ⟨rfl, q, rfl⟩
      have hown := Lib.ownsRow_putRow (q := q) (k := (Lib.compact zs).length) (ys := Lib.compact zs ++ List.replicate (zs.length - (Lib.compact zs).length) 0) ho.2.2.2.1 (by simp; omega) hle
      rw [List.take_left] at hown
      refine ⟨rfl, ⟨rfl, fun x hx => ho.2.1 x (compact_mem.1 hx), ?_, hown, ho.2.2.2.2⟩, ⟨rfl, rfl, rfl, ?_, fun k hk hne => ?_⟩⟩
      · simpa [putRow, mapBlock, Sort.ahead] using ho.2.2.1
      · simp [putRow, mapBlock, Sort.ahead]
      · simp [putRow, mapBlock, Sort.ahead, Array.getElem?_modify, show g ≠ k by omega]
end Go.Proofs.Ytgninjdnfidpcaa
