/- What is true of routes. -/
import Derived.Test.YtjckcggjmcaaoaaNetG
namespace Go.Proofs.Ytjckcggjmcaaoaa
open Go.RowKit
theorem other_two {l : Int × Int} {u v u2 v2 : Int} (h : other l u = some v) (h2 : other l u2 = some v2) : u2 = u ∨ (u2 = v ∧ v2 = u) := by
  unfold other at h h2
  split at h
  · rename_i e; cases h
    split at h2
    · rename_i e2; exact .inl (by rw [e, e2])
    · split at h2
      · rename_i e2; cases h2; exact .inr ⟨e2, e.symm⟩
      · cases h2
  · split at h
    · rename_i e0 e; cases h
      split at h2
      · rename_i e2; cases h2; exact .inr ⟨e2, e.symm⟩
      · split at h2
        · rename_i e2; exact .inl (by rw [e, e2])
        · cases h2
    · cases h
theorem step_two {ls : List (Int × Int)} {i u v u2 v2 : Int} (h : stepN ls i u = some v) (h2 : stepN ls i u2 = some v2) : u2 = u ∨ (u2 = v ∧ v2 = u) := by
  unfold stepN at h h2
  split at h
  · rename_i hi
    rw [if_pos hi] at h2
    exact other_two h h2
  · cases h
theorem endO_split {ls : List (Int × Int)} {p : List Int} {a b : Int} (h : endO ls p a = some b) {k : Nat} (hk : k < p.length) : ∃ u v, endO ls (p.take k) a = some u ∧ stepN ls (p.getD k 0) u = some v ∧ endO ls (p.drop (k + 1)) v = some b := by
  rw [← List.take_append_drop k p, endO_append, drop_at hk] at h
  cases hu : endO ls (p.take k) a with
  | none => rw [hu] at h; cases h
  | some u =>
    rw [hu] at h
    obtain ⟨v, h1, h2⟩ := endO_uncons h
    exact ⟨u, v, rfl, h1, h2⟩
/-- A best path has no link twice. -/
theorem best_nodup {ls : List (Int × Int)} {a b : Int} {p : List Int} (h : Best ls a b p) : p.Nodup := by
  refine List.pairwise_iff_getElem.2 fun i j hi hj hij e => ?_
  obtain ⟨u, v, a1, a2, _⟩ := endO_split h.1 hi
  obtain ⟨u2, v2, b1, b2, b3⟩ := endO_split h.1 hj
  have e1 : p.getD i 0 = p.getD j 0 := by simp [List.getD, hi, hj, e]
  rw [e1] at a2
  rcases step_two a2 b2 with h1 | ⟨h1, h2⟩
  · subst h1
    have hq : endO ls (p.take i ++ p.drop j) a = some b := by
      rw [endO_append, a1, drop_at hj]
      exact endO_cons b2 b3
    have := sle_len (h.2 _ hq)
    simp at this
    omega
  · subst h2
    have hq : endO ls (p.take i ++ p.drop (j + 1)) a = some b := by
      rw [endO_append, a1]
      exact b3
    have := sle_len (h.2 _ hq)
    simp at this
    omega
theorem route_cases (n : Int) (ls : List (Int × Int)) (a b : Int) : (routeV n ls a b = []) ∨ (askR n ls a b = true ∧ Best ls a b (routeV n ls a b)) := by
  cases h : askR n ls a b
  · exact .inl (route_no h)
  · by_cases hex : ∃ p, Best ls a b p
    · obtain ⟨p, hp⟩ := hex
      exact .inr ⟨rfl, by rw [route_best h hp]; exact hp⟩
    · left
      unfold routeV
      rw [if_pos h, dif_neg hex]
theorem ask_netB {n : Int} {ls : List (Int × Int)} {a b : Int} (h : askR n ls a b = true) : netB n ls = true := by
  unfold askR at h
  simp only [Bool.and_eq_true] at h
  exact h.1
theorem best_path {ls : List (Int × Int)} {a b : Int} {p : List Int} (h : Best ls a b p) (hb : 0 ≤ b) : isPathB ls p a b = true := by
  rw [path_pos (.inl hb), decide_eq_true (best_nodup h), decide_eq_true (by unfold endV; rw [h.1]; rfl)]
  rfl
theorem route_path {n : Int} {ls : List (Int × Int)} {a b : Int} (h : ¬ (routeV n ls a b).length = 0) : isPathB ls (routeV n ls a b) a b = true ∧ netB n ls = true := by
  rcases route_cases n ls a b with e | ⟨h1, h2⟩
  · rw [e] at h; exact absurd rfl h
  · obtain ⟨m, x, y, _, _, rfl, _⟩ := ask_true h1
    exact ⟨best_path h2 (by omega), ask_netB h1⟩
/-- The routes of a valid network exist where there is any path at all. -/
theorem best_of_path {m : Nat} {ls : List (Int × Int)} {a b : Int} {q : List Int} (he : Ends m ls) (ha : 0 ≤ a ∧ a < (m : Int)) (hq : endO ls q a = some b) : ∃ p, Best ls a b p := by
  -- the least by length, and of those by the first differing index: there are finitely many
  have key : ∀ (len : Nat) (v : Int), 0 ≤ v ∧ v < (m : Int) → (∃ q, endO ls q v = some b ∧ q.length = len) → (∀ q, endO ls q v = some b → len ≤ q.length) → ∃ p, Best ls v b p ∧ p.length = len := by
    intro len
    induction len with
    | zero =>
      intro v _ ⟨q, hq, hl⟩ _
      obtain rfl := List.eq_nil_of_length_eq_zero hl
      cases hq
      exact ⟨[], best_nil _ _, rfl⟩
    | succ len ih =>
      intro v hv ⟨q, hq, hl⟩ hmin
      -- the links that lead nearer
      have hex : ∃ i : Int, 0 ≤ i ∧ i < (ls.length : Int) ∧ ∃ w, stepN ls i v = some w ∧ ∃ q, endO ls q w = some b ∧ q.length = len := by
        cases q with
        | nil => simp at hl
        | cons i q =>
          obtain ⟨w, hs, hqw⟩ := endO_uncons hq
          have hb := step_bound hs
          exact ⟨i, hb.1, hb.2, w, hs, q, hqw, by simpa using hl⟩
      obtain ⟨i, _, _, ⟨w, hs, q1, hq1, hl1⟩, hfirst⟩ := least_index _ _ hex
      have hwn := step_ends he hs
      have hminw : ∀ q, endO ls q w = some b → len ≤ q.length := fun q hq => by
        have := hmin (i :: q) (endO_cons hs hq)
        simpa using this
      obtain ⟨p, hp, hpl⟩ := ih w ⟨hwn.1, hwn.2.1⟩ ⟨q1, hq1, hl1⟩ hminw
      refine ⟨i :: p, ⟨endO_cons hs hp.1, fun q hq => ?_⟩, by simp [hpl]⟩
      have hql := hmin q hq
      by_cases hlen : q.length = len + 1
      · cases q with
        | nil => simp at hlen
        | cons j q =>
          obtain ⟨u, hsj, hqu⟩ := endO_uncons hq
          have hjb := step_bound hsj
          have hqlen : q.length = len := by simpa using hlen
          rcases Int.lt_trichotomy j i with g | rfl | g
          · exact absurd ⟨u, hsj, q, hqu, hqlen⟩ (hfirst j hjb.1 g)
          · rw [hs] at hsj
            cases hsj
            rcases hp.2 q hqu with e | e | ⟨e1, e2⟩
            · subst e; exact .inl rfl
            · omega
            · exact .inr (.inr ⟨by simp [e1], .inr ⟨rfl, e2⟩⟩)
          · exact .inr (.inr ⟨by simp [hpl, hqlen], .inl g⟩)
      · exact .inr (.inl (by simp [hpl]; omega))
  have least : ∀ (k : Nat) (q : List Int), endO ls q a = some b → q.length ≤ k → ∃ len, (∃ q, endO ls q a = some b ∧ q.length = len) ∧ ∀ q, endO ls q a = some b → len ≤ q.length := by
    intro k
    induction k with
    | zero => intro q hq hl; exact ⟨0, ⟨q, hq, by omega⟩, fun _ _ => Nat.zero_le _⟩
    | succ k ih =>
      intro q hq hl
      by_cases h : ∃ q, endO ls q a = some b ∧ q.length ≤ k
      · obtain ⟨q2, hq2, hl2⟩ := h
        exact ih q2 hq2 hl2
      · refine ⟨q.length, ⟨q, hq, rfl⟩, fun q2 hq2 => ?_⟩
        by_cases h3 : q2.length ≤ k
        · exact absurd ⟨q2, hq2, h3⟩ h
        · omega
  obtain ⟨len, h1, h2⟩ := least q.length q hq (Nat.le_refl _)
  obtain ⟨p, hp, _⟩ := key len a ha h1 h2
  exact ⟨p, hp⟩
/-- One link is the route to its other end. -/
theorem route_link {n : Int} {ls : List (Int × Int)} {a b : Int} (hn : netB n ls = true) (h : 0 ≤ lk ls a b) : routeV n ls a b = [lk ls a b] := by
  obtain ⟨m, rfl, h1, h8, _, _, he⟩ := netB_ends hn
  rcases lk_cases ls a b with ⟨h0, _⟩ | ⟨k, hk, hkl, hj, hfirst⟩
  · omega
  · have hm := he _ (getL_mem hkl)
    have hj2 := of_decide_eq_true hj
    have hst : stepN ls (k : Int) a = some b := by
      rw [step_in hkl]
      unfold other
      rcases hj2 with ⟨e1, e2⟩ | ⟨e1, e2⟩
      · rw [if_pos e1.symm, e2]
      · rw [if_neg (by omega), if_pos e2.symm, e1]
    have hne : a ≠ b := by omega
    have hab : 0 ≤ a ∧ a < (m : Int) ∧ 0 ≤ b ∧ b < (m : Int) := by omega
    have hask : askR (m : Int) ls a b = true := ask_yes hn (inR_true.2 (by omega)) (inR_true.2 (by omega))
    rw [hk]
    refine route_best hask ⟨endO_cons hst rfl, fun q hq => ?_⟩
    cases q with
    | nil => simp only [endO, Option.some.injEq] at hq; exact absurd hq hne
    | cons i q =>
      cases q with
      | cons j q => exact .inr (.inl (by simp))
      | nil =>
        rw [endO_one] at hq
        have hib := step_bound hq
        obtain ⟨z, rfl⟩ : ∃ z : Nat, i = z := ⟨i.toNat, by omega⟩
        have hzl : z < ls.length := by omega
        rcases Nat.lt_trichotomy z k with g | rfl | g
        · have hno := hfirst z g
          rw [step_in hzl] at hq
          have hno2 := of_decide_eq_false hno
          unfold other at hq
          split at hq
          · rename_i e; cases hq; exact absurd (.inl ⟨e.symm, rfl⟩) hno2
          · split at hq
            · rename_i e; cases hq; exact absurd (.inr ⟨rfl, e.symm⟩) hno2
            · cases hq
        · exact .inl rfl
        · exact .inr (.inr ⟨rfl, .inl (by omega)⟩)
theorem ask_swap (n : Int) (ls : List (Int × Int)) (a b : Int) : askR n ls a b = askR n ls b a := by
  unfold askR
  rw [Bool.and_comm (inR a 0 (n - 1))]
theorem route_back (n : Int) (ls : List (Int × Int)) (a b : Int) : (routeV n ls b a).length = (routeV n ls a b).length := by
  have half : ∀ a b : Int, (routeV n ls b a).length ≤ (routeV n ls a b).length := fun a b => by
    rcases route_cases n ls b a with e | ⟨h1, h2⟩
    · rw [e]; exact Nat.zero_le _
    · obtain ⟨m, x, y, rfl, rfl, rfl, _, _, hx, hy, _, _, he⟩ := ask_true h1
      have hb := endO_back h2.1
      obtain ⟨p, hp⟩ := best_of_path he ⟨by omega, by omega⟩ hb
      rw [route_best (by rw [ask_swap]; exact h1) hp]
      have := sle_len (h2.2 _ (endO_back hp.1))
      simpa using this
  exact Nat.le_antisymm (half a b) (half b a)
theorem route_tri {n : Int} {ls : List (Int × Int)} {a b c : Int} (hq : ¬ (routeV n ls a c).length = 0) (hr : ¬ (routeV n ls c b).length = 0) : (routeV n ls a b).length ≤ (routeV n ls a c).length + (routeV n ls c b).length := by
  rcases route_cases n ls a c with e | ⟨_, h2⟩
  · rw [e] at hq; exact absurd rfl hq
  · rcases route_cases n ls c b with e | ⟨_, h4⟩
    · rw [e] at hr; exact absurd rfl hr
    · rcases route_cases n ls a b with e | ⟨_, h6⟩
      · rw [e]; exact Nat.zero_le _
      · have hp : endO ls (routeV n ls a c ++ routeV n ls c b) a = some b := by rw [endO_append, h2.1]; exact h4.1
        have := sle_len (h6.2 _ hp)
        simpa using this
/-- The first numbers together. -/
def sumN (zs : List Int) : Nat → Int
  | 0 => 0
  | k + 1 => sumN zs k + zs.getD k 0
theorem sumN_bits {zs : List Int} (h : ∀ x ∈ zs, 0 ≤ x ∧ x ≤ 1) : ∀ k, k ≤ zs.length → 0 ≤ sumN zs k ∧ sumN zs k ≤ (k : Int)
  | 0, _ => ⟨Int.le_refl _, Int.le_refl _⟩
  | k + 1, hk => by
    have ih := sumN_bits h k (by omega)
    have := h _ (getD_mem (l := zs) (j := k) (by omega))
    simp only [sumN]
    omega
theorem sumN_row {p : List Int} {m : Nat} : ∀ k, k ≤ m → sumN (rowL p m) k = sumN (rowL p k) k := by
  intro k
  have go : ∀ j, j ≤ k → k ≤ m → sumN (rowL p m) j = sumN (rowL p k) j := by
    intro j
    induction j with
    | zero => intro _ _; rfl
    | succ j ih =>
      intro hj hk
      simp only [sumN]
      rw [ih (by omega) hk]
      congr 1
      simp [rowL, List.getD, show j < m by omega, show j < k by omega]
  exact fun hk => go k (Nat.le_refl _) hk
/-- A path's row has one for each of its links. -/
theorem row_sum : ∀ (m : Nat) (p : List Int), p.Nodup → (∀ x ∈ p, 0 ≤ x ∧ x < (m : Int)) → sumN (rowL p m) m = (p.length : Int)
  | 0, p, _, h => by
    cases p with
    | nil => rfl
    | cons x p => have := h x (by simp); omega
  | m + 1, p, hd, h => by
    have ih := row_sum m (p.erase (m : Int)) (hd.erase _) (fun x hx => by
      have h2 := h x (List.mem_of_mem_erase hx)
      have h3 : x ≠ (m : Int) := fun e => by subst e; exact (hd.not_mem_erase) hx
      omega)
    have hrow : rowL (p.erase (m : Int)) m = rowL p m := by
      unfold rowL
      refine List.map_congr_left fun i hi => ?_
      have hi := List.mem_range.1 hi
      have : hasB (p.erase (m : Int)) (i : Int) = hasB p (i : Int) := by
        unfold hasB
        exact decide_eq_decide.2 (List.mem_erase_of_ne (by omega))
      rw [this]
    rw [hrow] at ih
    have hlast : (rowL p (m + 1)).getD m 0 = if hasB p (m : Int) = true then 1 else 0 := by simp [rowL, List.getD]
    simp only [sumN]
    rw [sumN_row m (by omega), hlast, ih]
    by_cases hm : (m : Int) ∈ p
    · have h1 : hasB p (m : Int) = true := decide_eq_true hm
      rw [h1, List.length_erase_of_mem hm]
      have := List.length_pos_of_mem hm
      simp only [if_true]
      omega
    · have h1 : hasB p (m : Int) = false := decide_eq_false hm
      rw [h1, List.erase_of_not_mem hm]
      simp
theorem route_sum {n : Int} {ls : List (Int × Int)} {a b : Int} (h1 : 1 ≤ ls.length) (h6 : ls.length ≤ 6) : sumN (rowA (routeV n ls a b) (ls.length : Int)) (rowA (routeV n ls a b) (ls.length : Int)).length = ((routeV n ls a b).length : Int) := by
  have hin : inR (ls.length : Int) 1 6 = true := inR_true.2 (by omega)
  have e : ∀ p, rowA p (ls.length : Int) = rowL p ls.length := fun p => by unfold rowA; rw [if_pos hin, Int.toNat_natCast]
  rw [e, rowL_len]
  rcases route_cases n ls a b with e2 | ⟨_, h4⟩
  · rw [e2]
    exact row_sum _ [] List.nodup_nil (fun x hx => by cases hx)
  · exact row_sum _ _ (best_nodup h4) (endO_bound h4.1)
end Go.Proofs.Ytjckcggjmcaaoaa
