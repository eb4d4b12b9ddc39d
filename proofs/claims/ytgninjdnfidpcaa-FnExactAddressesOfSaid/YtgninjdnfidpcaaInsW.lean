/- Ascending numbers of the call's own: what is read and cut of them. -/
import Derived.Test.YtgninjdnfidpcaaInsF
import Derived.Test.YtgninjdnfidpcaaStepSl
namespace Go.Proofs.Ytgninjdnfidpcaa
open Go.RowKit
theorem own_nilB {k : IntKind} {e : TypeId} {w : World} {B : Nat} (h : B = w.heap.size) : Own k e (w.alloc (.cells #[] e)) w.heap.size (w.alloc (.cells #[] e)).heap.size (some ⟨B, 0, none⟩) 0 0 [] := by
  subst h
  exact (own_nil k e w).wide (Nat.le_refl _) (own_nil k e w).2.2.1 (Nat.le_refl _)
theorem below_new8 (W : World) (o : Obj) : Below W.heap.size W (W.alloc o) := (Below.refl _ _).alloc (Nat.le_refl _) _
theorem Sees.spot8 {k : IntKind} {w : World} {a : Option Addr} {len : Nat} {zs : List Int} (h : Sees k w a len zs) (h0 : 0 < len) : ∃ b off, a = some ⟨b, off, none⟩ ∧ b < w.heap.size ∧ ∀ j, j < len → w.cell? ⟨b, off + j, none⟩ = some (.int k (zs.getD j 0)) := by
  rcases h.2.2 with h1 | h1
  · omega
  · exact h1
theorem Sees.cut8 {k : IntKind} {w : World} {a : Option Addr} {len m : Nat} {zs : List Int} (h : Sees k w a len zs) (hm : m ≤ len) : Sees k w a m (zs.take m) := by
  refine ⟨by rw [List.length_take, h.1]; omega, fun n hn => h.2.1 n (List.mem_of_mem_take hn), ?_⟩
  rcases h.2.2 with h0 | ⟨b, off, ha, hb, hc⟩
  · exact .inl (by omega)
  · exact .inr ⟨b, off, ha, hb, fun j hj => by rw [hc j (by omega)]; simp [List.getD, hj]⟩
theorem Sees.drop1 {k : IntKind} {w : World} {g off len p : Nat} {zs : List Int} (h : Sees k w (some ⟨g, off, none⟩) len zs) (hp : p ≤ zs.length) : Sees k w (some ⟨g, off + p, none⟩) (len - p) (zs.drop p) := by
  have hl := h.1
  refine ⟨by rw [List.length_drop, h.1], fun n hn => h.2.1 n (List.mem_of_mem_drop hn), ?_⟩
  rcases h.2.2 with h0 | ⟨b, o, ha, hb, hc⟩
  · exact .inl (by omega)
  · cases ha
    exact .inr ⟨g, off + p, rfl, hb, fun j hj => by rw [Nat.add_assoc, hc (p + j) (by omega)]; simp [List.getD]⟩
theorem Sees.drop0 {k : IntKind} {w : World} {a : Option Addr} {len p : Nat} {zs : List Int} (h : Sees k w a len zs) (hp : p ≤ zs.length) (hpl : len ≤ p) : Sees k w a (len - p) (zs.drop p) := by
  have hl := h.1
  exact ⟨by rw [List.length_drop, h.1], fun n hn => h.2.1 n (List.mem_of_mem_drop hn), .inl (by omega)⟩
theorem Own.cell0 {k : IntKind} {e : TypeId} {w : World} {lo hi g len cap : Nat} {zs : List Int} (h : Own k e w lo hi (some ⟨g, 0, none⟩) len cap zs) {j : Nat} (hj : j < len) : w.cell? ⟨g, j, none⟩ = some (.int k (zs.getD j 0)) := by
  rcases h.spot with ⟨h0, _⟩ | ⟨g', hg, _, _, _, _, hc, _⟩
  · cases h0
  · cases hg; exact hc j hj
theorem Own.someA {k : IntKind} {e : TypeId} {w : World} {lo hi len cap : Nat} {a : Option Addr} {zs : List Int} (h : Own k e w lo hi a len cap zs) (hp : 0 < zs.length) : ∃ g, a = some ⟨g, 0, none⟩ := by
  rcases h.spot with ⟨_, _, _, h0⟩ | ⟨g', hg, _⟩
  · rw [h0] at hp; cases hp
  · exact ⟨g', hg⟩
theorem insAll_pos {zs acc : List Int} {jj : Nat} (h : jj < zs.length) : 0 < (insAll (zs.take (jj + 1)) acc).length := by
  have : zs.getD 0 0 ∈ insAll (zs.take (jj + 1)) acc := insAll_mem.2 (.inl (by
    cases zs with
    | nil => simp at h
    | cons z r => simp [List.take]))
  exact List.length_pos_of_mem this
end Go.Proofs.Ytgninjdnfidpcaa
