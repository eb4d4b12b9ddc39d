/- What the law on what is told asks. Plain mathematics for chapter 14. -/
import Derived.Test.YtedkeobhcpbigaaToU
import Derived.Test.YtedkeobhcpbigaaHas
import Derived.Test.YtedkeobhcpbigaaSysR
namespace Go.Proofs.Ytedkeobhcpbigaa
open Go.RowKit
theorem hasB_true {zs : List Int} {x : Int} : hasB zs x = true ↔ x ∈ zs := by unfold hasB; exact decide_eq_true_iff
theorem valR_is {ms : List (List Int)} {vs z : List Int} : (valR ms vs z).isSome = (solvB ms vs (z.length : Int) && inSpanV ms z) := by
  cases h1 : solvB ms vs (z.length : Int) with
  | false => rw [valR_no1 h1]; rfl
  | true =>
    cases h2 : inSpanV ms z with
    | false => rw [valR_no2 h2]; rfl
    | true =>
      rw [valR_yes h1 h2]
      obtain ⟨c, o, hA⟩ := aug_red2 (aug_ok (solv_sys h1))
      obtain ⟨_, D, X, hs, hD, hX, _⟩ := hA.solved (solv_good h1)
      rw [← solL_yes h1] at hs
      have hb : bothV ms z = true := by
        unfold inSpanV at h2
        exact (Bool.and_eq_true _ _ ▸ h2).1
      obtain ⟨p, hp, _⟩ := hs.dot (both_len hb).2 (by omega) (fun k => by have := hX k; omega) (both_row hb)
      rw [hp]
      rfl
theorem told_mem {ms : List (List Int)} {n : Nat} {x : Int} : x ∈ toldV ms (n : Int) ↔ isMat ms (n : Int) = true ∧ ∃ j : Nat, j < n ∧ x = (j : Int) ∧ inSpanV ms (unitV (j : Int) (n : Int)) = true := by
  unfold toldV
  by_cases h : isMat ms (n : Int) = true
  · rw [if_pos h, Int.toNat_natCast, toldK_mem]
    exact ⟨fun h2 => ⟨h, h2⟩, fun h2 => h2.2⟩
  · rw [if_neg h]
    exact ⟨fun h2 => by simp at h2, fun h2 => absurd h2.1 h⟩
theorem del_is {ms : List (List Int)} {vs : List Int} {n : Nat} {k : Int} (hn1 : 1 ≤ n) (hn6 : n ≤ 6) : (delV ms vs k (n : Int)).isSome = (hasB (toldV ms (n : Int)) k && solvB ms vs (n : Int)) := by
  have hr : inR (n : Int) 1 6 = true := inR_true.2 ⟨by omega, by omega⟩
  unfold delV
  by_cases hk : 0 ≤ k ∧ k < n
  · obtain ⟨j, rfl⟩ : ∃ j : Nat, k = (j : Int) := ⟨k.toNat, by omega⟩
    have hj : j < n := by omega
    have hu : (unitV (j : Int) (n : Int)).length = n := by
      rw [unitV_is hr (inR_true.2 ⟨by omega, by omega⟩), Int.toNat_natCast, unitK_len]
    rw [if_neg (by omega), valR_is, hu, Bool.and_comm]
    congr 1
    rw [Bool.eq_iff_iff, hasB_true, told_mem]
    constructor
    · intro h
      have hb : bothV ms (unitV (j : Int) (n : Int)) = true := by
        unfold inSpanV at h
        exact (Bool.and_eq_true _ _ ▸ h).1
      simp only [bothV, Bool.and_eq_true, hu] at hb
      exact ⟨hb.1, j, hj, rfl, h⟩
    · rintro ⟨_, j2, _, h2, h3⟩
      rw [h2]
      exact h3
  · rw [unitV_out (inR_false.2 (by omega))]
    simp only [List.length_nil, if_true, Option.isSome_none]
    rw [eq_comm, Bool.and_eq_false_iff]
    refine .inl (Bool.eq_false_iff.2 fun h => hk ?_)
    rw [hasB_true, told_mem] at h
    obtain ⟨_, j, h1, h2, _⟩ := h
    omega
theorem twins_no {ms : List (List Int)} {n : Nat} {x : Int} (h : x ∈ toldV ms (n : Int)) : twinV ms x = [] := by
  obtain ⟨hm, j, hj, rfl, hin⟩ := told_mem.1 h
  unfold twinV
  split
  · rename_i hc
    have hw := ((isMat_true hm).2.2 0 hc.1).1
    have key : ∀ k, k ≤ n → twinK ms (j : Int) k = [] := fun k => by
      induction k with
      | zero => exact fun _ => rfl
      | succ k ih =>
        intro hk
        rw [twinK, ih (by omega), if_neg]
        intro ht
        unfold twinB at ht
        rw [Bool.and_eq_true, Bool.not_eq_true', decide_eq_false_iff_not] at ht
        refine unit_alone hm hj (by omega : k < n) (fun e => ht.1 (by rw [e])) hin (fun i hi => ?_)
        have hs := sameB_up (i := i + 1) ms.length hi ht.2
        rw [sameB, Bool.and_eq_true, decide_eq_true_eq, Int.toNat_natCast] at hs
        exact hs.2
    exact key _ (by omega)
  · rfl
theorem useful_rank {ms : List (List Int)} {n : Nat} (h : isMat ms (n : Int) = true) : (usefV ms (n : Int)).length = (rrV ms (n : Int)).length := by
  have h1 := usefK_rank h ms.length (Nat.le_refl _)
  rw [List.take_length] at h1
  unfold usefV rrV
  rw [if_pos h, if_pos h, Int.toNat_natCast]
  exact h1
theorem told_all {ms : List (List Int)} {n : Nat} (h : isMat ms (n : Int) = true) : (toldV ms (n : Int)).length = n ↔ (rrV ms (n : Int)).length = n := by
  unfold toldV rrV
  rw [if_pos h, if_pos h, Int.toNat_natCast, toldK_all, units_iff h]
end Go.Proofs.Ytedkeobhcpbigaa
