/- Circles among links: plain words. -/
import Derived.Test.YtbjjgcfmdlinaaaSlL
import Derived.Test.YtbjjgcfmdlinaaaHas
namespace Go.Proofs.Ytbjjgcfmdlinaaa
open Go.RowKit
/-- What can be reached from a over links. -/
inductive Reach (ls : List (Int × Int)) (a : Int) : Int → Prop
  | start : Reach ls a a
  | ahead {x y : Int} : Reach ls a x → (x, y) ∈ ls → Reach ls a y
  | back {x y : Int} : Reach ls a x → (y, x) ∈ ls → Reach ls a y
/-- A link closes a circle if its ends are joined by the links ahead of it. -/
def closesAt (ls : List (Int × Int)) (i : Nat) : Prop := Reach (ls.take i) (ls.getD i (0, 0)).1 (ls.getD i (0, 0)).2
noncomputable def circV (ls : List (Int × Int)) : Bool := @decide (∃ i, i < ls.length ∧ closesAt ls i) (Classical.propDecidable _)
theorem circV_yes {ls : List (Int × Int)} {i : Nat} (hi : i < ls.length) (h : closesAt ls i) : circV ls = true := @decide_eq_true _ (Classical.propDecidable _) ⟨i, hi, h⟩
theorem circV_no {ls : List (Int × Int)} (h : ∀ i, i < ls.length → ¬ closesAt ls i) : circV ls = false := @decide_eq_false _ (Classical.propDecidable _) (fun ⟨i, hi, hc⟩ => h i hi hc)
theorem nodup_sub : ∀ {l m : List Int}, l.Nodup → (∀ x, x ∈ l → x ∈ m) → l.length ≤ m.length
  | [], _, _, _ => Nat.zero_le _
  | x :: r, m, hd, h => by
    have hx := h x (List.mem_cons_self ..)
    have h1 := List.nodup_cons.1 hd
    have ih := nodup_sub (l := r) (m := m.erase x) h1.2 (fun y hy => (List.mem_erase_of_ne (fun (e : y = x) => h1.1 (by rw [← e]; exact hy))).2 (h y (List.mem_cons_of_mem _ hy)))
    have hl := List.length_erase_of_mem hx
    have hp : 0 < m.length := List.length_pos_of_mem hx
    simp only [List.length_cons]
    omega
def endsOf (ls : List (Int × Int)) : List Int := ls.map (·.1) ++ ls.map (·.2)
theorem reach_in {ls : List (Int × Int)} {a x : Int} (h : Reach ls a x) : x ∈ a :: endsOf ls := by
  cases h with
  | start => exact List.mem_cons_self ..
  | ahead _ h2 => exact List.mem_cons_of_mem _ (List.mem_append_right _ (List.mem_map.2 ⟨_, h2, rfl⟩))
  | back _ h2 => exact List.mem_cons_of_mem _ (List.mem_append_left _ (List.mem_map.2 ⟨_, h2, rfl⟩))
/-- A list of what is reached, whose first k are done, and the next one up to link j. -/
structure NearC (ls : List (Int × Int)) (a : Int) (near : List Int) (k j : Nat) : Prop where
  nodup : near.Nodup
  head : a ∈ near
  reach : ∀ x, x ∈ near → Reach ls a x
  done : ∀ r, r < k → ∀ y, (near.getD r 0, y) ∈ ls ∨ (y, near.getD r 0) ∈ ls → y ∈ near
  part : ∀ i, i < j → i < ls.length → ((ls.getD i (0, 0)).1 = near.getD k 0 → (ls.getD i (0, 0)).2 ∈ near) ∧ ((ls.getD i (0, 0)).2 = near.getD k 0 → (ls.getD i (0, 0)).1 ∈ near)
theorem nearC_len {ls : List (Int × Int)} {a : Int} {near : List Int} {k j : Nat} (h : NearC ls a near k j) : near.length ≤ 2 * ls.length + 1 := by
  have := nodup_sub h.nodup (fun x hx => reach_in (h.reach x hx))
  simp only [List.length_cons, endsOf, List.length_append, List.length_map] at this
  omega
theorem nearC_zero (ls : List (Int × Int)) (a : Int) : NearC ls a [a] 0 0 :=
  ⟨List.nodup_cons.2 ⟨by simp, List.nodup_nil⟩, List.mem_cons_self .., fun x hx => by rw [List.mem_singleton.1 hx]; exact .start, fun r hr => absurd hr (Nat.not_lt_zero _), fun i hi => absurd hi (Nat.not_lt_zero _)⟩
theorem getD_leftI {l : List Int} {y : Int} {r : Nat} (h : r < l.length) : (l ++ [y]).getD r 0 = l.getD r 0 := by
  simp [List.getD, List.getElem?_append_left h]
/-- Something reached goes behind. -/
theorem nearC_add {ls : List (Int × Int)} {a y : Int} {near : List Int} {k j : Nat} (h : NearC ls a near k j) (hk : k < near.length) (hy : ¬ y ∈ near) (hr : Reach ls a y) : NearC ls a (near ++ [y]) k j := by
  refine ⟨?_, List.mem_append_left _ h.head, fun x hx => ?_, fun r hr2 z hz => ?_, fun i hi hl => ?_⟩
  · rw [List.nodup_append]
    exact ⟨h.nodup, List.nodup_cons.2 ⟨by simp, List.nodup_nil⟩, fun x hx z hz => by rw [List.mem_singleton] at hz; rintro rfl; exact hy (hz ▸ hx)⟩
  · rcases List.mem_append.1 hx with h1 | h1
    · exact h.reach x h1
    · rw [List.mem_singleton.1 h1]; exact hr
  · rw [getD_leftI (by omega)] at hz
    exact List.mem_append_left _ (h.done r hr2 z hz)
  · rw [getD_leftI hk]
    have := h.part i hi hl
    exact ⟨fun e => List.mem_append_left _ (this.1 e), fun e => List.mem_append_left _ (this.2 e)⟩
/-- The next link is looked at. -/
theorem nearC_next {ls : List (Int × Int)} {a : Int} {near : List Int} {k j : Nat} (h : NearC ls a near k j) (h1 : (ls.getD j (0, 0)).1 = near.getD k 0 → (ls.getD j (0, 0)).2 ∈ near) (h2 : (ls.getD j (0, 0)).2 = near.getD k 0 → (ls.getD j (0, 0)).1 ∈ near) : NearC ls a near k (j + 1) :=
  ⟨h.nodup, h.head, h.reach, h.done, fun i hi hl => by
    rcases Nat.lt_or_eq_of_le (Nat.lt_succ_iff.1 hi) with h3 | h3
    · exact h.part i h3 hl
    · rw [h3]; exact ⟨h1, h2⟩⟩
/-- All links have been looked at for one node. -/
theorem nearC_row {ls : List (Int × Int)} {a : Int} {near : List Int} {k : Nat} (h : NearC ls a near k ls.length) : NearC ls a near (k + 1) 0 :=
  ⟨h.nodup, h.head, h.reach, fun r hr y hy => by
    rcases Nat.lt_or_eq_of_le (Nat.lt_succ_iff.1 hr) with h3 | h3
    · exact h.done r h3 y hy
    · subst h3
      rcases hy with hy | hy
      · obtain ⟨i, hi, he⟩ := List.getElem_of_mem hy
        have h4 := (h.part i hi hi).1
        rw [show ls.getD i (0, 0) = (near.getD r 0, y) by simp [List.getD, hi, he]] at h4
        exact h4 rfl
      · obtain ⟨i, hi, he⟩ := List.getElem_of_mem hy
        have h4 := (h.part i hi hi).2
        rw [show ls.getD i (0, 0) = (y, near.getD r 0) by simp [List.getD, hi, he]] at h4
        exact h4 rfl, fun i hi => absurd hi (Nat.not_lt_zero _)⟩
/-- At the end all that is reached is there. -/
theorem nearC_all {ls : List (Int × Int)} {a : Int} {near : List Int} {j : Nat} (h : NearC ls a near near.length j) {x : Int} : x ∈ near ↔ Reach ls a x := by
  refine ⟨h.reach x, fun hr => ?_⟩
  induction hr with
  | start => exact h.head
  | ahead _ h2 ih =>
    obtain ⟨r, hr, he⟩ := List.getElem_of_mem ih
    exact h.done r hr _ (.inl (by rw [show near.getD r 0 = _ by simp [List.getD, hr]; exact he]; exact h2))
  | back _ h2 ih =>
    obtain ⟨r, hr, he⟩ := List.getElem_of_mem ih
    exact h.done r hr _ (.inr (by rw [show near.getD r 0 = _ by simp [List.getD, hr]; exact he]; exact h2))
end Go.Proofs.Ytbjjgcfmdlinaaa
