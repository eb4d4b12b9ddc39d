/- A hash whose one value differs modulo the modulus differs. -/
import Derived.Test.YtklookaggnohdaaKeyed
namespace Go.Proofs.Ytklookaggnohdaa
open Go.RowKit
theorem factor_inj {D t : Int} (h : D * 1000003 = 2147483647 * t) (h0 : -2147483647 < D) (h1 : D < 2147483647) : D = 0 := by
  have e : D = 2147483647 * (1523789695 * t - 709572 * D) := by omega
  generalize 1523789695 * t - 709572 * D = m at e
  clear h
  omega
theorem rem_same {x y p : Int} (h : x % p = y % p) : ∃ t, x - y = p * t := Int.dvd_of_emod_eq_zero (Int.emod_eq_emod_iff_emod_sub_eq_zero.1 h)
theorem hstep_inj_d {d d' v : Int} (h : hstep d v = hstep d' v) (a0 : 0 ≤ d) (a1 : d ≤ 2147483646) (b0 : 0 ≤ d') (b1 : d' ≤ 2147483646) : d = d' := by
  have h1 : -2147483647 < d - d' := by omega
  have h2 : d - d' < 2147483647 := by omega
  obtain ⟨t, ht⟩ := rem_same h
  generalize v % 2147483647 = m at ht
  have e : (d - d') * 1000003 = 2147483647 * t := by omega
  have h3 := factor_inj e h1 h2
  exact Int.sub_eq_zero.1 h3
theorem hstep_inj_v {d v v' : Int} (h : ¬ v % 2147483647 = v' % 2147483647) : hstep d v ≠ hstep d v' := by
  unfold hstep
  obtain ⟨c, hc⟩ : ∃ c, c = d * 1000003 := ⟨_, rfl⟩
  rw [← hc]
  omega
theorem fold_inj : ∀ (vs : List Int) (d d' : Int), 0 ≤ d → d ≤ 2147483646 → 0 ≤ d' → d' ≤ 2147483646 → d ≠ d' → vs.foldl hstep d ≠ vs.foldl hstep d' := by
  intro vs
  induction vs with
  | nil => intro d d' _ _ _ _ h; exact h
  | cons v vs ih =>
    intro d d' a0 a1 b0 b1 h
    rw [List.foldl_cons, List.foldl_cons]
    have h1 := hstep_bd d v
    have h2 := hstep_bd d' v
    exact ih _ _ h1.1 h1.2 h2.1 h2.2 fun e => h (hstep_inj_d e a0 a1 b0 b1)
theorem keyV_mid (key x : Int) (A B : List Int) : keyV key (A ++ x :: B) = (B ++ [key]).foldl hstep (hstep ((key :: A).foldl hstep 11) x) := by
  simp [keyV, hashV, List.foldl_append]
theorem keyV_set {key y : Int} {zs : List Int} {j : Nat} (hj : j < zs.length) (h : ¬ y % 2147483647 = zs.getD j 0 % 2147483647) : keyV key (zs.set j y) ≠ keyV key zs := by
  have e1 : zs.set j y = zs.take j ++ y :: zs.drop (j + 1) := by rw [List.set_eq_take_append_cons_drop, if_pos hj]
  have e2 : zs = zs.take j ++ zs.getD j 0 :: zs.drop (j + 1) := by
    have : zs.getD j 0 = zs[j] := by simp [List.getD, hj]
    rw [this, List.getElem_cons_drop, List.take_append_drop]
  have k1 : keyV key (zs.set j y) = (zs.drop (j + 1) ++ [key]).foldl hstep (hstep ((key :: zs.take j).foldl hstep 11) y) := by rw [e1, keyV_mid]
  have k2 : keyV key zs = (zs.drop (j + 1) ++ [key]).foldl hstep (hstep ((key :: zs.take j).foldl hstep 11) (zs.getD j 0)) := by
    rw [← keyV_mid, ← e2]
  rw [k1, k2]
  have h1 := hstep_bd ((key :: zs.take j).foldl hstep 11) y
  have h2 := hstep_bd ((key :: zs.take j).foldl hstep 11) (zs.getD j 0)
  exact fold_inj _ _ _ h1.1 h1.2 h2.1 h2.2 (hstep_inj_v h)
end Go.Proofs.Ytklookaggnohdaa
