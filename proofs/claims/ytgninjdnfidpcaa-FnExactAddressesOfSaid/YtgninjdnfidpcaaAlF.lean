/- Routers with many addresses: plain words. -/
import Derived.Test.YtgninjdnfidpcaaSlY
import Derived.Test.YtgninjdnfidpcaaHas
import Derived.Test.YtgninjdnfidpcaaInsF
namespace Go.Proofs.Ytgninjdnfidpcaa
open Go.RowKit
def rep (xs : List (Int × Int × Int)) (k : Nat) : Int × Int × Int := xs.getD k (0, 0, 0)
def repOk (p : Int × Int × Int) : Bool := inR p.1 0 20 && (inR p.2.1 0 100000 && inR p.2.2 0 100000)
/-- No reply ahead of i has its time. -/
def newAt (xs : List (Int × Int × Int)) (i : Nat) : Bool := (List.range i).all fun k => decide (¬ (rep xs k).2.1 = (rep xs i).2.1)
def areR (xs : List (Int × Int × Int)) : Bool := (List.range xs.length).all (fun i => repOk (rep xs i) && newAt xs i) && decide (xs.length ≤ 12)
/-- Replies i and k tell that they come of two routers. -/
def apart2 (xs : List (Int × Int × Int)) (ad : List Int) (i k : Nat) : Bool :=
  hasB ad (rep xs i).1 && (hasB ad (rep xs k).1 && (decide ((rep xs i).2.1 < (rep xs k).2.1) && decide ((rep xs k).2.2 ≤ (rep xs i).2.2)))
def mayB (xs : List (Int × Int × Int)) (ad : List Int) : Bool := (List.range xs.length).all (fun i => (List.range xs.length).all fun k => !apart2 xs ad i k) && areR xs
def addrV (xs : List (Int × Int × Int)) : List Int := insAll (xs.map (·.1)) []
theorem rep_mem {xs : List (Int × Int × Int)} {k : Nat} (h : k < xs.length) : rep xs k ∈ xs := by simp [rep, List.getD, h]
theorem areR_true {xs : List (Int × Int × Int)} : areR xs = true ↔ (∀ i, i < xs.length → repOk (rep xs i) = true ∧ ∀ k, k < i → ¬ (rep xs k).2.1 = (rep xs i).2.1) ∧ xs.length ≤ 12 := by
  unfold areR newAt
  simp only [Bool.and_eq_true, List.all_eq_true, List.mem_range, decide_eq_true_eq]
theorem areR_bad {xs : List (Int × Int × Int)} {i : Nat} (hi : i < xs.length) (h : repOk (rep xs i) = false) : areR xs = false := by
  cases h1 : areR xs
  · rfl
  · have := ((areR_true.1 h1).1 i hi).1
    rw [h] at this
    cases this
theorem areR_twice {xs : List (Int × Int × Int)} {i k : Nat} (hi : i < xs.length) (hk : k < i) (h : (rep xs k).2.1 = (rep xs i).2.1) : areR xs = false := by
  cases h1 : areR xs
  · rfl
  · exact absurd h (((areR_true.1 h1).1 i hi).2 k hk)
theorem areR_all {xs : List (Int × Int × Int)} (h : ∀ i, i < xs.length → repOk (rep xs i) = true ∧ ∀ k, k < i → ¬ (rep xs k).2.1 = (rep xs i).2.1) : areR xs = decide (xs.length ≤ 12) := by
  by_cases hl : xs.length ≤ 12
  · rw [decide_eq_true hl]
    exact areR_true.2 ⟨h, hl⟩
  · rw [decide_eq_false hl]
    cases h1 : areR xs
    · rfl
    · exact absurd (areR_true.1 h1).2 hl
theorem mayB_true {xs : List (Int × Int × Int)} {ad : List Int} : mayB xs ad = true ↔ (∀ i, i < xs.length → ∀ k, k < xs.length → apart2 xs ad i k = false) ∧ areR xs = true := by
  unfold mayB
  simp only [Bool.and_eq_true, List.all_eq_true, List.mem_range, Bool.not_eq_true']
theorem mayB_no {xs : List (Int × Int × Int)} {ad : List Int} {i k : Nat} (hi : i < xs.length) (hk : k < xs.length) (h : apart2 xs ad i k = true) : mayB xs ad = false := by
  cases h1 : mayB xs ad
  · rfl
  · have := (mayB_true.1 h1).1 i hi k hk
    rw [h] at this
    cases this
theorem mayB_all {xs : List (Int × Int × Int)} {ad : List Int} (h : ∀ i, i < xs.length → ∀ k, k < xs.length → apart2 xs ad i k = false) : mayB xs ad = areR xs := by
  cases h1 : areR xs
  · cases h2 : mayB xs ad
    · rfl
    · have := (mayB_true.1 h2).2
      rw [h1] at this
      cases this
  · exact mayB_true.2 ⟨h, h1⟩
theorem hasB_mem {ad : List Int} {x : Int} : hasB ad x = true ↔ x ∈ ad := by simp [hasB]
theorem apart2_sub {xs : List (Int × Int × Int)} {ad bs : List Int} (hs : ∀ x, x ∈ bs → x ∈ ad) {i k : Nat} (h : apart2 xs ad i k = false) : apart2 xs bs i k = false := by
  cases h1 : apart2 xs bs i k
  · rfl
  · unfold apart2 at h h1
    simp only [Bool.and_eq_true] at h1
    rw [hasB_mem.2 (hs _ (hasB_mem.1 h1.1)), hasB_mem.2 (hs _ (hasB_mem.1 h1.2.1)), h1.2.2.1, h1.2.2.2] at h
    cases h
/-- Fewer addresses may be one router if more may. -/
theorem mayB_sub {xs : List (Int × Int × Int)} {ad bs : List Int} (hs : ∀ x, x ∈ bs → x ∈ ad) (h : mayB xs ad = true) : mayB xs bs = true :=
  mayB_true.2 ⟨fun i hi k hk => apart2_sub hs ((mayB_true.1 h).1 i hi k hk), (mayB_true.1 h).2⟩
theorem addr_asc (xs : List (Int × Int × Int)) : Asc (addrV xs) := insAll_asc List.Pairwise.nil
theorem addr_mem {xs : List (Int × Int × Int)} {x : Int} : x ∈ addrV xs ↔ ∃ k, k < xs.length ∧ (rep xs k).1 = x := by
  unfold addrV
  rw [insAll_mem]
  constructor
  · rintro (h | h)
    · obtain ⟨p, hp, rfl⟩ := List.mem_map.1 h
      obtain ⟨k, hk, rfl⟩ := List.getElem_of_mem hp
      exact ⟨k, hk, by simp [rep, List.getD, hk]⟩
    · cases h
  · rintro ⟨k, hk, rfl⟩
    exact .inl (List.mem_map.2 ⟨_, rep_mem hk, rfl⟩)
theorem addr_len (xs : List (Int × Int × Int)) : (addrV xs).length ≤ xs.length := by
  have := insAll_len (xs.map (·.1)) []
  unfold addrV
  simpa using this
/-- The first group, from k on, that an address may join. -/
def joinAt (xs : List (Int × Int × Int)) (x : Int) : List (List Int) → Nat
  | [] => 0
  | g :: r => if mayB xs (g ++ [x]) = true then 0 else joinAt xs x r + 1
theorem joinAt_le (xs : List (Int × Int × Int)) (x : Int) : ∀ gs, joinAt xs x gs ≤ gs.length
  | [] => Nat.le_refl _
  | g :: r => by
    unfold joinAt
    have := joinAt_le xs x r
    split <;> simp <;> omega
theorem joinAt_is {xs : List (Int × Int × Int)} {x : Int} : ∀ {gs : List (List Int)} {k : Nat}, k ≤ gs.length → (∀ j, j < k → mayB xs (row gs j ++ [x]) = false) → (k < gs.length → mayB xs (row gs k ++ [x]) = true) → joinAt xs x gs = k
  | [], k, hk, _, _ => by have : k = 0 := by simpa using hk
                          rw [this]; rfl
  | g :: r, 0, _, _, h2 => by
    have := h2 (by simp)
    unfold joinAt
    rw [if_pos (by simpa [row] using this)]
  | g :: r, k + 1, hk, h1, h2 => by
    have h0 := h1 0 (by omega)
    unfold joinAt
    rw [if_neg (by simp [row] at h0; simp [h0]), joinAt_is (k := k) (by simpa using hk) (fun j hj => by simpa [row] using h1 (j + 1) (by omega)) (fun hl => by simpa [row] using h2 (by simpa using hl))]
def place (xs : List (Int × Int × Int)) (gs : List (List Int)) (x : Int) : List (List Int) :=
  if joinAt xs x gs < gs.length then gs.set (joinAt xs x gs) (row gs (joinAt xs x gs) ++ [x]) else gs ++ [[x]]
def grpK (xs : List (Int × Int × Int)) (l : List Int) : List (List Int) := l.foldl (place xs) []
def grpV (xs : List (Int × Int × Int)) : List (List Int) := if areR xs = true then grpK xs (addrV xs) else []
theorem grpK_next {xs : List (Int × Int × Int)} {l : List Int} {i : Nat} (hi : i < l.length) : grpK xs (l.take (i + 1)) = place xs (grpK xs (l.take i)) (l.getD i 0) := by
  unfold grpK
  rw [List.take_add_one, List.foldl_append]
  simp [List.getD, hi]
def sureB (xs : List (Int × Int × Int)) (a b : Int) : Bool := areR xs && !mayB xs [a, b]
end Go.Proofs.Ytgninjdnfidpcaa
