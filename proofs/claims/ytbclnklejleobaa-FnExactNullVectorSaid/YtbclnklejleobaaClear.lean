/- 'clear' of a slice of numbers of the call's own. -/
import Derived.Test.YtbclnklejleobaaSlI
import Derived.WalkLawsBesides
namespace Go.Proofs.Ytbclnklejleobaa
open Go.RowKit
def zeroFrom : List Int → Nat → Nat → List Int
  | zs, _, 0 => zs
  | zs, o, n + 1 => zeroFrom (zs.set o 0) (o + 1) n
theorem zeroFrom_len : ∀ (n o : Nat) (zs : List Int), (zeroFrom zs o n).length = zs.length
  | 0, _, _ => rfl
  | n + 1, o, zs => by rw [zeroFrom, zeroFrom_len n]; simp
theorem zeroFrom_at : ∀ (n o : Nat) (zs : List Int) (j : Nat), (zeroFrom zs o n)[j]? = if o ≤ j ∧ j < o + n ∧ j < zs.length then some 0 else zs[j]?
  | 0, o, zs, j => by rw [zeroFrom, if_neg (by omega)]
  | n + 1, o, zs, j => by
    rw [zeroFrom, zeroFrom_at n (o + 1) (zs.set o 0) j, List.getElem?_set, List.length_set]
    by_cases h1 : j = o
    · subst h1
      by_cases h2 : j < zs.length
      · rw [if_neg (by omega), if_pos rfl, if_pos h2, if_pos ⟨Nat.le_refl _, by omega, h2⟩]
      · rw [if_neg (by omega), if_pos rfl, if_neg h2, if_neg (by omega), List.getElem?_eq_none (by omega)]
    · have e : (o + 1 ≤ j ∧ j < o + 1 + n ∧ j < zs.length) = (o ≤ j ∧ j < o + (n + 1) ∧ j < zs.length) := by rw [eq_iff_iff]; omega
      simp only [e]
      by_cases h2 : o ≤ j ∧ j < o + (n + 1) ∧ j < zs.length
      · rw [if_pos h2, if_pos h2]
      · rw [if_neg h2, if_neg h2, if_neg (fun e => h1 e.symm)]
theorem zeroFrom_all (zs : List Int) : zeroFrom zs 0 zs.length = List.replicate zs.length 0 := by
  apply List.ext_getElem?
  intro j
  rw [zeroFrom_at, List.getElem?_replicate]
  by_cases h : j < zs.length
  · rw [if_pos ⟨Nat.zero_le _, by omega, h⟩, if_pos h]
  · rw [if_neg (by omega), if_neg h, List.getElem?_eq_none (by omega)]
theorem Own.zeroed {k : IntKind} {e : TypeId} {lo hi g len cap : Nat} (h0 : (Lit.int k 0).wf = true) : ∀ (n o : Nat) (w : World) (zs : List Int), Own k e w lo hi (some ⟨g, 0, none⟩) len cap zs →
    Own k e (w.setCells g o (List.replicate n (.int k 0))) lo hi (some ⟨g, 0, none⟩) len cap (zeroFrom zs o n) ∧ Moved lo hi w (w.setCells g o (List.replicate n (.int k 0)))
  | 0, _, w, _, h => ⟨h, Moved.refl _ _ _⟩
  | n + 1, o, w, zs, h => by
    obtain ⟨s1, s2⟩ := h.stored o 0 h0
    obtain ⟨t1, t2⟩ := Own.zeroed h0 n (o + 1) _ _ s1
    exact ⟨t1, s2.trans t2⟩
theorem zero_int : ∀ w : World, (zeroValue 3).run Try.prog w = .ok (.int .i64 0) w := fun w => by kernel_rfl
/-- 'clear' as a run: an equation for the walk, and what it leaves. -/
theorem clear_run {w : World} {lo hi : Nat} {a : Option Addr} {len cap : Nat} {zs : List Int} (hown : Own .i64 3 w lo hi a len cap zs) (hn : 0 < len) (ty : TypeId) :
    ∃ w', (Builtin.clear_ #[29] ty #[.slice a len cap]).run Try.prog w = .ok (.tuple #[]) w' ∧ Own .i64 3 w' lo hi a len cap (List.replicate len 0) ∧ Moved lo hi w w' := by
  rcases hown.spot with ⟨_, h0, _⟩ | ⟨g, rfl, _, _, _, _, hc, hf⟩
  · omega
  have hrun := Lib.run_clear_slice (P := Try.prog) w 29 3 ty (.int .i64 0) Try.underlying29 zero_int rfl rfl g 0 len cap hn (fun j hj => by rw [Nat.zero_add, hc j hj]; rfl) (fun j _ => by rw [Nat.zero_add]; exact hf j)
  obtain ⟨k1, k2⟩ := hown.zeroed (by decide) len 0
  have hl := hown.1
  rw [← hl, zeroFrom_all, hl] at k1
  exact ⟨_, hrun, k1, k2⟩
end Go.Proofs.Ytbclnklejleobaa
