/- Numbers ascending and each once: plain words. -/
import Derived.Test.YtgninjdnfidpcaaSl
namespace Go.Proofs.Ytgninjdnfidpcaa
open Go.RowKit
/-- A number is put into its place, unless it is there. -/
def insU (n : Int) : List Int → List Int
  | [] => [n]
  | x :: r => if x < n then x :: insU n r else if x = n then x :: r else n :: x :: r
def Asc (l : List Int) : Prop := l.Pairwise (· < ·)
theorem insU_mem {n x : Int} : ∀ {l : List Int}, x ∈ insU n l ↔ x = n ∨ x ∈ l
  | [] => by simp [insU]
  | y :: r => by
    unfold insU
    split
    · rw [List.mem_cons, insU_mem (l := r), List.mem_cons]
      constructor
      · rintro (h | h | h)
        · exact .inr (.inl h)
        · exact .inl h
        · exact .inr (.inr h)
      · rintro (h | h | h)
        · exact .inr (.inl h)
        · exact .inl h
        · exact .inr (.inr h)
    · split
      · rename_i h
        subst h
        rw [List.mem_cons]
        constructor
        · exact .inr
        · rintro (h | h)
          · exact .inl h
          · exact h
      · rw [List.mem_cons]
theorem insU_asc {n : Int} : ∀ {l : List Int}, Asc l → Asc (insU n l)
  | [], _ => by simp [insU, Asc]
  | y :: r, h => by
    have h1 : (∀ z ∈ r, y < z) ∧ Asc r := List.pairwise_cons.1 h
    unfold insU
    split
    · rename_i hy
      refine List.pairwise_cons.2 ⟨fun z hz => ?_, insU_asc h1.2⟩
      rcases insU_mem.1 hz with rfl | hz
      · exact hy
      · exact h1.1 z hz
    · split
      · exact h
      · rename_i h2 h3
        refine List.pairwise_cons.2 ⟨fun z hz => ?_, h⟩
        rcases List.mem_cons.1 hz with rfl | hz
        · omega
        · have := h1.1 z hz
          omega
theorem insU_len (n : Int) : ∀ l : List Int, (insU n l).length ≤ l.length + 1
  | [] => by simp [insU]
  | y :: r => by
    unfold insU
    split
    · have := insU_len n r
      simp only [List.length_cons]
      omega
    · split
      · simp
      · simp
def insAll (l : List Int) (acc : List Int) : List Int := l.foldl (fun a n => insU n a) acc
theorem insAll_next {l : List Int} {k : Nat} (hk : k < l.length) (acc : List Int) : insAll (l.take (k + 1)) acc = insU (l.getD k 0) (insAll (l.take k) acc) := by
  unfold insAll
  rw [List.take_add_one, List.foldl_append]
  simp [List.getD, hk]
theorem insAll_mem {x : Int} : ∀ {l acc : List Int}, x ∈ insAll l acc ↔ x ∈ l ∨ x ∈ acc
  | [], _ => by simp [insAll]
  | y :: r, acc => by
    show x ∈ insAll r (insU y acc) ↔ _
    rw [insAll_mem (l := r), insU_mem, List.mem_cons]
    constructor
    · rintro (h | h | h)
      · exact .inl (.inr h)
      · exact .inl (.inl h)
      · exact .inr h
    · rintro ((h | h) | h)
      · exact .inr (.inl h)
      · exact .inl h
      · exact .inr (.inr h)
theorem insAll_asc : ∀ {l acc : List Int}, Asc acc → Asc (insAll l acc)
  | [], _, h => h
  | _ :: r, _, h => insAll_asc (l := r) (insU_asc h)
theorem insAll_len : ∀ (l acc : List Int), (insAll l acc).length ≤ acc.length + l.length
  | [], _ => Nat.le_refl _
  | y :: r, acc => by
    have h1 := insAll_len r (insU y acc)
    have h2 := insU_len y acc
    show (insAll r (insU y acc)).length ≤ _
    rw [List.length_cons]
    omega
theorem asc_ext : ∀ {a b : List Int}, Asc a → Asc b → (∀ x, x ∈ a ↔ x ∈ b) → a = b
  | [], [], _, _, _ => rfl
  | [], y :: s, _, _, h => by have := (h y).2 List.mem_cons_self; cases this
  | x :: r, [], _, _, h => by have := (h x).1 List.mem_cons_self; cases this
  | x :: r, y :: s, ha, hb, h => by
    have a1 : (∀ z ∈ r, x < z) ∧ Asc r := List.pairwise_cons.1 ha
    have b1 : (∀ z ∈ s, y < z) ∧ Asc s := List.pairwise_cons.1 hb
    have hxy : x = y := by
      rcases List.mem_cons.1 ((h x).1 List.mem_cons_self) with h1 | h1
      · exact h1
      · rcases List.mem_cons.1 ((h y).2 List.mem_cons_self) with h2 | h2
        · exact h2.symm
        · have := b1.1 x h1
          have := a1.1 y h2
          omega
    subst hxy
    congr 1
    refine asc_ext a1.2 b1.2 (fun z => ⟨fun hz => ?_, fun hz => ?_⟩)
    · rcases List.mem_cons.1 ((h z).1 (List.mem_cons_of_mem _ hz)) with h1 | h1
      · have := a1.1 z hz
        omega
      · exact h1
    · rcases List.mem_cons.1 ((h z).2 (List.mem_cons_of_mem _ hz)) with h1 | h1
      · have := b1.1 z hz
        omega
      · exact h1
/-- Different numbers below m are at most m. -/
theorem asc_len : ∀ {l : List Int} {lo m : Int}, Asc l → (∀ x ∈ l, lo ≤ x ∧ x < m) → (l.length : Int) ≤ m - lo ∨ l = []
  | [], _, _, _, _ => .inr rfl
  | x :: r, lo, m, h, hb => by
    have h1 : (∀ z ∈ r, x < z) ∧ Asc r := List.pairwise_cons.1 h
    have hx := hb x List.mem_cons_self
    left
    rcases asc_len (l := r) (lo := x + 1) (m := m) h1.2 (fun z hz => ⟨by have := h1.1 z hz; omega, (hb z (List.mem_cons_of_mem _ hz)).2⟩) with h2 | h2
    · simp only [List.length_cons]
      omega
    · subst h2
      simp
      omega
/-- Where a number goes: behind the first p, which are less. -/
theorem insU_at {n : Int} : ∀ {l : List Int} {p : Nat}, p ≤ l.length → (∀ r, r < p → l.getD r 0 < n) → (p < l.length → ¬ l.getD p 0 < n) →
    insU n l = if p < l.length ∧ l.getD p 0 = n then l else l.take p ++ [n] ++ l.drop p
  | [], p, hp, _, _ => by
    have : p = 0 := by simpa using hp
    subst this
    simp [insU]
  | x :: r, 0, _, _, h3 => by
    have hx : ¬ x < n := by simpa using h3 (by simp)
    unfold insU
    rw [if_neg hx]
    by_cases hxn : x = n
    · subst hxn
      simp
    · rw [if_neg hxn, if_neg (by simp [hxn])]
      simp
  | x :: r, p + 1, hp, h2, h3 => by
    have hx : x < n := by simpa using h2 0 (by omega)
    have ih := insU_at (n := n) (l := r) (p := p) (by simpa using hp) (fun q hq => by simpa using h2 (q + 1) (by omega)) (fun hq => by simpa using h3 (by simpa using hq))
    unfold insU
    rw [if_pos hx, ih]
    by_cases hc : p < r.length ∧ r.getD p 0 = n
    · rw [if_pos hc, if_pos ⟨by simpa using hc.1, by simpa using hc.2⟩]
    · rw [if_neg hc, if_neg (fun hc2 => hc ⟨by simpa using hc2.1, by simpa using hc2.2⟩)]
      simp
end Go.Proofs.Ytgninjdnfidpcaa
