/- What is true of groups of addresses. -/
import Derived.Test.YtgninjdnfidpcaaAlF
namespace Go.Proofs.Ytgninjdnfidpcaa
open Go.RowKit
structure GrpInv (xs : List (Int × Int × Int)) (gs : List (List Int)) (l : List Int) : Prop where
  ne : ∀ g, g ∈ gs → 0 < g.length
  may : ∀ g, g ∈ gs → 1 < g.length → mayB xs g = true
  mem : ∀ g, g ∈ gs → ∀ x, x ∈ g → x ∈ l
  asc : ∀ g, g ∈ gs → Asc g
  sum : (gs.map List.length).sum = l.length
theorem row_mem {gs : List (List Int)} {k : Nat} (h : k < gs.length) : row gs k ∈ gs := by simp [row, List.getD, h]
theorem joinAt_may {xs : List (Int × Int × Int)} {x : Int} : ∀ {gs : List (List Int)}, joinAt xs x gs < gs.length → mayB xs (row gs (joinAt xs x gs) ++ [x]) = true
  | [], h => absurd h (Nat.not_lt_zero _)
  | g :: r, h => by
    by_cases hg : mayB xs (g ++ [x]) = true
    · unfold joinAt
      rw [if_pos hg]
      simpa [row] using hg
    · have e : joinAt xs x (g :: r) = joinAt xs x r + 1 := by rw [joinAt, if_neg hg]
      rw [e] at h ⊢
      have := joinAt_may (xs := xs) (x := x) (gs := r) (by simpa using h)
      simpa [row] using this
theorem sum_set {x : Int} : ∀ {gs : List (List Int)} {k : Nat}, k < gs.length → ((gs.set k (row gs k ++ [x])).map List.length).sum = (gs.map List.length).sum + 1
  | [], k, h => absurd h (Nat.not_lt_zero _)
  | g :: r, 0, _ => by simp [row]; omega
  | g :: r, k + 1, h => by
    have := sum_set (x := x) (gs := r) (k := k) (by simpa using h)
    simp only [row, List.set_cons_succ, List.map_cons, List.sum_cons, List.getD_cons_succ] at this ⊢
    omega
theorem asc_more {l : List Int} {x : Int} (h : Asc l) (hx : ∀ y, y ∈ l → y < x) : Asc (l ++ [x]) := by
  unfold Asc at h ⊢
  rw [List.pairwise_append]
  exact ⟨h, List.pairwise_singleton _ _, fun a ha b hb => by rw [List.mem_singleton] at hb; rw [hb]; exact hx a ha⟩
theorem place_inv {xs : List (Int × Int × Int)} {gs : List (List Int)} {l : List Int} {x : Int} (h : GrpInv xs gs l) (hx : ∀ y, y ∈ l → y < x) : GrpInv xs (place xs gs x) (l ++ [x]) := by
  unfold place
  by_cases hk : joinAt xs x gs < gs.length
  · rw [if_pos hk]
    have hm := joinAt_may hk
    have hr := row_mem hk
    have hsum := sum_set (x := x) hk
    obtain ⟨k, hke⟩ : ∃ k, k = joinAt xs x gs := ⟨_, rfl⟩
    rw [← hke] at hk hm hr hsum ⊢
    refine ⟨fun g hg => ?_, fun g hg hl => ?_, fun g hg y hy => ?_, fun g hg => ?_, ?_⟩
    · rcases List.mem_or_eq_of_mem_set hg with h1 | rfl
      · exact h.ne g h1
      · simp
    · rcases List.mem_or_eq_of_mem_set hg with h1 | rfl
      · exact h.may g h1 hl
      · exact hm
    · rcases List.mem_or_eq_of_mem_set hg with h1 | rfl
      · exact List.mem_append_left _ (h.mem g h1 y hy)
      · rcases List.mem_append.1 hy with h2 | h2
        · exact List.mem_append_left _ (h.mem _ hr y h2)
        · exact List.mem_append_right _ h2
    · rcases List.mem_or_eq_of_mem_set hg with h1 | rfl
      · exact h.asc g h1
      · exact asc_more (h.asc _ hr) (fun y hy => hx y (h.mem _ hr y hy))
    · rw [hsum, h.sum, List.length_append]
      rfl
  · rw [if_neg hk]
    refine ⟨fun g hg => ?_, fun g hg hl => ?_, fun g hg y hy => ?_, fun g hg => ?_, ?_⟩
    · rcases List.mem_append.1 hg with h1 | h1
      · exact h.ne g h1
      · rw [List.mem_singleton.1 h1]; exact Nat.one_pos
    · rcases List.mem_append.1 hg with h1 | h1
      · exact h.may g h1 hl
      · rw [List.mem_singleton.1 h1] at hl; exact absurd hl (by simp)
    · rcases List.mem_append.1 hg with h1 | h1
      · exact List.mem_append_left _ (h.mem g h1 y hy)
      · rw [List.mem_singleton.1 h1] at hy; exact List.mem_append_right _ hy
    · rcases List.mem_append.1 hg with h1 | h1
      · exact h.asc g h1
      · rw [List.mem_singleton.1 h1]; exact List.pairwise_singleton _ _
    · rw [List.map_append, List.sum_append, h.sum, List.length_append]
      rfl
theorem grpK_inv (xs : List (Int × Int × Int)) {l : List Int} (ha : Asc l) : ∀ i, i ≤ l.length → GrpInv xs (grpK xs (l.take i)) (l.take i)
  | 0, _ => ⟨fun g hg => (by cases hg), fun g hg => (by cases hg), fun g hg => (by cases hg), fun g hg => (by cases hg), rfl⟩
  | i + 1, hi => by
    have ih := grpK_inv xs ha i (by omega)
    rw [grpK_next (by omega)]
    have e : l.take (i + 1) = l.take i ++ [l.getD i 0] := by
      rw [List.take_add_one]
      simp [List.getD, show i < l.length by omega]
    rw [e]
    refine place_inv ih (fun y hy => ?_)
    have hp : Asc (l.take (i + 1)) := List.Pairwise.sublist (List.take_sublist _ _) ha
    rw [e] at hp
    exact (List.pairwise_append.1 hp).2.2 y hy _ (List.mem_singleton.2 rfl)
theorem grp_inv {xs : List (Int × Int × Int)} (h : areR xs = true) : GrpInv xs (grpV xs) (addrV xs) := by
  have := grpK_inv xs (addr_asc xs) (addrV xs).length (Nat.le_refl _)
  rw [List.take_length] at this
  unfold grpV
  rw [if_pos h]
  exact this
theorem grp_none {xs : List (Int × Int × Int)} (h : areR xs = false) : grpV xs = [] := by
  unfold grpV
  rw [h]
  rfl
theorem asc_at {l : List Int} (h : Asc l) {j k : Nat} (hj : j < k) (hk : k < l.length) : l.getD j 0 < l.getD k 0 := by
  have := List.pairwise_iff_getElem.1 h j k (by omega) hk hj
  simpa [List.getD, hk, show j < l.length by omega] using this
theorem grp_pos {xs : List (Int × Int × Int)} (h : areR xs = true) {i : Nat} (hi : i < (grpV xs).length) : 0 < (row (grpV xs) i).length := (grp_inv h).ne _ (row_mem hi)
theorem grp_may {xs : List (Int × Int × Int)} (h : areR xs = true) {i : Nat} (hi : i < (grpV xs).length) (hl : 1 < (row (grpV xs) i).length) : mayB xs (row (grpV xs) i) = true := (grp_inv h).may _ (row_mem hi) hl
theorem grp_has {xs : List (Int × Int × Int)} (h : areR xs = true) {i k : Nat} (hi : i < (grpV xs).length) (hk : k < (row (grpV xs) i).length) : hasB (addrV xs) ((row (grpV xs) i).getD k 0) = true :=
  hasB_mem.2 ((grp_inv h).mem _ (row_mem hi) _ (getD_mem hk))
theorem grp_asc {xs : List (Int × Int × Int)} (h : areR xs = true) {i j k : Nat} (hi : i < (grpV xs).length) (hj : j < k) (hk : k < (row (grpV xs) i).length) : (row (grpV xs) i).getD j 0 < (row (grpV xs) i).getD k 0 := asc_at ((grp_inv h).asc _ (row_mem hi)) hj hk
theorem grp_sure {xs : List (Int × Int × Int)} (h : areR xs = true) {i j k : Nat} (hi : i < (grpV xs).length) (hj : j < k) (hk : k < (row (grpV xs) i).length) : sureB xs ((row (grpV xs) i).getD j 0) ((row (grpV xs) i).getD k 0) = false := by
  have hm := mayB_sub (bs := [(row (grpV xs) i).getD j 0, (row (grpV xs) i).getD k 0]) (fun x hx => by
    simp only [List.mem_cons, List.not_mem_nil, or_false] at hx
    rcases hx with rfl | rfl
    · exact getD_mem (by omega)
    · exact getD_mem hk) (grp_may h hi (by omega))
  unfold sureB
  rw [hm, h]
  rfl
/-- The lengths of the first k groups together. -/
def sumG (gs : List (List Int)) (k : Nat) : Nat := ((gs.take k).map List.length).sum
theorem sumG_next {gs : List (List Int)} {k : Nat} (h : k < gs.length) : sumG gs (k + 1) = sumG gs k + (row gs k).length := by
  unfold sumG
  rw [List.take_add_one, List.map_append, List.sum_append]
  simp [row, List.getD, h]
theorem sumG_le {gs : List (List Int)} : ∀ {k n : Nat}, k ≤ n → n ≤ gs.length → sumG gs k ≤ sumG gs n
  | k, 0, h, _ => by rw [Nat.le_zero.1 h]; exact Nat.le_refl _
  | k, n + 1, h, hn => by
    rcases Nat.lt_or_eq_of_le h with h1 | h1
    · have := sumG_le (gs := gs) (k := k) (n := n) (by omega) (by omega)
      rw [sumG_next (by omega)]
      omega
    · rw [h1]; exact Nat.le_refl _
theorem sumG_all {xs : List (Int × Int × Int)} (h : areR xs = true) : sumG (grpV xs) (grpV xs).length = (addrV xs).length := by
  unfold sumG
  rw [List.take_length]
  exact (grp_inv h).sum
theorem len_sum : ∀ {gs : List (List Int)}, (∀ g, g ∈ gs → 0 < g.length) → gs.length ≤ (gs.map List.length).sum
  | [], _ => Nat.le_refl _
  | g :: r, h => by
    have h1 := h g (List.mem_cons_self ..)
    have h2 := len_sum (gs := r) (fun x hx => h x (List.mem_cons_of_mem _ hx))
    simp only [List.map_cons, List.sum_cons, List.length_cons]
    omega
theorem row_sum : ∀ {gs : List (List Int)} {k : Nat}, (row gs k).length ≤ (gs.map List.length).sum
  | [], k => by simp [row]
  | g :: r, 0 => by simp [row]
  | g :: r, k + 1 => by
    have := row_sum (gs := r) (k := k)
    simp only [row, List.map_cons, List.sum_cons, List.getD_cons_succ] at this ⊢
    omega
theorem grpK_small (xs : List (Int × Int × Int)) {l : List Int} (ha : Asc l) {i : Nat} (hi : i ≤ l.length) : (grpK xs (l.take i)).length ≤ i ∧ ∀ k, (row (grpK xs (l.take i)) k).length ≤ i := by
  have h := grpK_inv xs ha i hi
  have hs := h.sum
  rw [List.length_take, Nat.min_eq_left hi] at hs
  have h1 := len_sum h.ne
  exact ⟨by omega, fun k => by have := row_sum (gs := grpK xs (l.take i)) (k := k); omega⟩
/-- Where an address goes, if the groups ahead of k do not take it. -/
theorem place_join {xs : List (Int × Int × Int)} {gs : List (List Int)} {x : Int} {k : Nat} (hk : k < gs.length) (h1 : ∀ j, j < k → mayB xs (row gs j ++ [x]) = false) (h2 : mayB xs (row gs k ++ [x]) = true) : place xs gs x = gs.set k (row gs k ++ [x]) := by
  have e := joinAt_is (xs := xs) (x := x) (gs := gs) (k := k) (by omega) h1 (fun _ => h2)
  unfold place
  rw [e, if_pos hk]
theorem place_new {xs : List (Int × Int × Int)} {gs : List (List Int)} {x : Int} (h1 : ∀ j, j < gs.length → mayB xs (row gs j ++ [x]) = false) : place xs gs x = gs ++ [[x]] := by
  have e := joinAt_is (xs := xs) (x := x) (gs := gs) (k := gs.length) (Nat.le_refl _) h1 (fun h => absurd h (Nat.lt_irrefl _))
  unfold place
  rw [e, if_neg (Nat.lt_irrefl _)]
end Go.Proofs.Ytgninjdnfidpcaa
