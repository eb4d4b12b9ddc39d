/- Bounds of delays by a work list of rows: a row that does not wait would change nothing. -/
import Derived.Test.YthcinjlghhfhmaaBdQ
namespace Go.Proofs.Ythcinjlghhfhmaa
open Go.RowKit
/-- The row would not change the link. -/
def FixK (z : List Int) (y : Int × Int) (xs : List (Int × Int)) (k : Nat) : Prop := z.getD k 0 ≠ 0 → narLo z y xs k = (iv xs k).1 ∧ narHi z y xs k = (iv xs k).2
theorem set_iv {xs : List (Int × Int)} {k : Nat} (h : k < xs.length) : xs.set k (iv xs k) = xs := by
  refine iv_ext (by simp) (fun j hj => ?_)
  by_cases e : j = k
  · subst e; rw [iv_set_same h]
  · rw [iv_set_other e]
theorem fix_cell {z : List Int} {y : Int × Int} {xs : List (Int × Int)} {k : Nat} (hx : ivsOk xs = true) (hk : k < xs.length) (h : FixK z y xs k) : cellK z y k xs = some xs := by
  unfold cellK
  by_cases h0 : z.getD k 0 = 0
  · rw [if_pos h0]
  · have hv := ivsOk_true.1 hx k hk
    rw [if_neg h0, (h h0).1, (h h0).2, if_neg (by omega)]
    exact congrArg some (set_iv hk)
theorem fix_row {z : List Int} {y : Int × Int} {xs : List (Int × Int)} (hx : ivsOk xs = true) : ∀ n, n ≤ xs.length → (∀ k, k < n → FixK z y xs k) → rowK z y (some xs) n = some xs
  | 0, _, _ => rfl
  | n + 1, hn, h => by
    simp only [rowK, fix_row hx n (by omega) (fun k hk => h k (by omega))]
    exact fix_cell hx hn (h n (Nat.lt_succ_self n))
theorem oth_set {z : List Int} {xs : List (Int × Int)} {j k : Nat} {v : Int × Int} (h0 : z.getD j 0 ≠ 1) : ∀ i, othLo z (xs.set j v) k i = othLo z xs k i ∧ othHi z (xs.set j v) k i = othHi z xs k i
  | 0 => ⟨rfl, rfl⟩
  | i + 1 => by
    have ih := oth_set (xs := xs) (k := k) (v := v) h0 i
    simp only [othLo, othHi, ih.1, ih.2]
    by_cases e : i = j
    · subst e
      have hn : ¬ (i ≠ k ∧ z.getD i 0 = 1) := fun h => h0 h.2
      refine ⟨?_, ?_⟩ <;> rw [if_neg hn, if_neg hn]
    · rw [iv_set_other e]
      simp
theorem fix_set {z : List Int} {y : Int × Int} {xs : List (Int × Int)} {j k : Nat} {v : Int × Int} (h0 : z.getD j 0 = 0) (h : FixK z y xs k) : FixK z y (xs.set j v) k := by
  intro hk
  have e : k ≠ j := fun e => hk (by rw [e]; exact h0)
  have ho := oth_set (xs := xs) (k := k) (v := v) (z := z) (j := j) (by omega) xs.length
  have := h hk
  unfold narLo narHi at this ⊢
  rw [List.length_set, ho.1, ho.2, iv_set_other e]
  exact this
theorem fix_zero {z : List Int} {y : Int × Int} {xs : List (Int × Int)} {k : Nat} (h0 : z.getD k 0 = 0) : FixK z y xs k := fun h => absurd h0 h
/-- Row i waits unless ws says no. -/
def wt (ws : List Bool) (i : Nat) : Bool := ws.getD i true
/-- Rows that do not wait would change nothing; of row i, the first j links are known. -/
def IdleAt (ms : List (List Int)) (ls xs : List (Int × Int)) (ws : List Bool) (i j : Nat) : Prop :=
  ∀ r, r < ms.length → wt ws r = false → ∀ k, k < xs.length → (r = i → k < j) → FixK (row ms r) (iv ls r) xs k
def Idle (ms : List (List Int)) (ls xs : List (Int × Int)) (ws : List Bool) : Prop :=
  ∀ r, r < ms.length → wt ws r = false → ∀ k, k < xs.length → FixK (row ms r) (iv ls r) xs k
theorem wt_set_same {ws : List Bool} {i : Nat} {b : Bool} (h : i < ws.length) : wt (ws.set i b) i = b := by simp [wt, List.getD, h]
theorem wt_set_other {ws : List Bool} {i r : Nat} {b : Bool} (h : r ≠ i) : wt (ws.set i b) r = wt ws r := by simp [wt, List.getD, Ne.symm h]
theorem wt_repl (n r : Nat) : wt (List.replicate n true) r = true := by
  unfold wt
  by_cases h : r < n
  · simp [List.getD, h]
  · simp [List.getD, h]
theorem idle_all (ms : List (List Int)) (ls xs : List (Int × Int)) (n : Nat) : Idle ms ls xs (List.replicate n true) := fun r _ h => by rw [wt_repl] at h; cases h
theorem idle_start {ms : List (List Int)} {ls xs : List (Int × Int)} {ws : List Bool} {i : Nat} (h : Idle ms ls xs ws) : IdleAt ms ls xs (ws.set i false) i 0 := by
  intro r hr hw k hk hi
  by_cases e : r = i
  · exact absurd (hi e) (Nat.not_lt_zero _)
  · rw [wt_set_other e] at hw
    exact h r hr hw k hk
theorem idle_end {ms : List (List Int)} {ls xs : List (Int × Int)} {ws : List Bool} {i n : Nat} (h : IdleAt ms ls xs ws i n) (hn : xs.length ≤ n) : Idle ms ls xs ws := fun r hr hw k hk => h r hr hw k hk (fun _ => by omega)
theorem idle_keep {ms : List (List Int)} {ls xs : List (Int × Int)} {ws : List Bool} {i j : Nat} (h : IdleAt ms ls xs ws i j) (hf : FixK (row ms i) (iv ls i) xs j) : IdleAt ms ls xs ws i (j + 1) := by
  intro r hr hw k hk hi
  by_cases e : r = i
  · by_cases e2 : k = j
    · subst e e2; exact hf
    · exact h r hr hw k hk (fun _ => by have := hi e; omega)
  · exact h r hr hw k hk (fun e' => absurd e' e)
/-- All rows with the link wait. -/
def wakeV (ms : List (List Int)) (j : Nat) (ws : List Bool) : Nat → List Bool
  | 0 => ws
  | r + 1 => if (row ms r).getD j 0 = 1 then (wakeV ms j ws r).set r true else wakeV ms j ws r
theorem wake_len (ms : List (List Int)) (j : Nat) (ws : List Bool) : ∀ n, (wakeV ms j ws n).length = ws.length
  | 0 => rfl
  | n + 1 => by unfold wakeV; split <;> simp [wake_len ms j ws n]
theorem wake_wt {ms : List (List Int)} {j : Nat} {ws : List Bool} : ∀ n, n ≤ ws.length → ∀ r, wt (wakeV ms j ws n) r = if r < n ∧ (row ms r).getD j 0 = 1 then true else wt ws r
  | 0, _, r => by simp [wakeV]
  | n + 1, hn, r => by
    have ih := wake_wt (ms := ms) (j := j) (ws := ws) n (by omega) r
    unfold wakeV
    by_cases e : r = n
    · subst e
      split
      · rename_i h1
        rw [wt_set_same (by rw [wake_len]; omega), if_pos ⟨by omega, h1⟩]
      · rename_i h1
        rw [ih, if_neg (fun h => Nat.lt_irrefl _ h.1), if_neg (fun h => h1 h.2)]
    · split
      · rw [wt_set_other e, ih]
        by_cases h : r < n ∧ (row ms r).getD j 0 = 1
        · rw [if_pos h, if_pos ⟨by omega, h.2⟩]
        · rw [if_neg h, if_neg (fun h' => h ⟨by omega, h'.2⟩)]
      · rw [ih]
        by_cases h : r < n ∧ (row ms r).getD j 0 = 1
        · rw [if_pos h, if_pos ⟨by omega, h.2⟩]
        · rw [if_neg h, if_neg (fun h' => h ⟨by omega, h'.2⟩)]
theorem idle_wake {ms : List (List Int)} {ls xs : List (Int × Int)} {ws : List Bool} {i j : Nat} {v : Int × Int} (hb : ∀ r, r < ms.length → (row ms r).getD j 0 = 0 ∨ (row ms r).getD j 0 = 1) (hw : ws.length = ms.length) (hi : (row ms i).getD j 0 = 1) (h : IdleAt ms ls xs ws i j) :
    IdleAt ms ls (xs.set j v) (wakeV ms j ws ms.length) i (j + 1) := by
  intro r hr hwt k hk hki
  rw [wake_wt _ (by omega)] at hwt
  by_cases h1 : (row ms r).getD j 0 = 1
  · rw [if_pos ⟨hr, h1⟩] at hwt; cases hwt
  · rw [if_neg (fun h => h1 h.2)] at hwt
    have h0 : (row ms r).getD j 0 = 0 := by have := hb r hr; omega
    have e : r ≠ i := fun e => h1 (by rw [e]; exact hi)
    exact fix_set h0 (h r hr hwt k (by simpa using hk) (fun e' => absurd e' e))
theorem idle_row {ms : List (List Int)} {ls xs : List (Int × Int)} {ws : List Bool} {i : Nat} (hx : ivsOk xs = true) (h : Idle ms ls xs ws) (hi : i < ms.length) (hw : wt ws i = false) : rowK (row ms i) (iv ls i) (some xs) xs.length = some xs :=
  fix_row hx _ (Nat.le_refl _) (fun k hk => h i hi hw k hk)
/-- Several passes. -/
def nwR (ms : List (List Int)) (ls xs : List (Int × Int)) (n : Nat) : Option (List (Int × Int)) := if bndV ms ls xs.length = true ∧ ivsOk xs = true then itR ms ls (some xs) n else none
def nwL (ms : List (List Int)) (ls xs : List (Int × Int)) (n : Nat) : List (Int × Int) := (nwR ms ls xs n).getD []
def nwB (ms : List (List Int)) (ls xs : List (Int × Int)) (n : Nat) : Bool := (nwR ms ls xs n).isSome
theorem nw_no {ms : List (List Int)} {ls xs : List (Int × Int)} {n : Nat} (h : nwR ms ls xs n = none) : nwL ms ls xs n = [] ∧ nwB ms ls xs n = false := by simp [nwL, nwB, h]
theorem nw_yes {ms : List (List Int)} {ls xs q : List (Int × Int)} {n : Nat} (h : nwR ms ls xs n = some q) : nwL ms ls xs n = q ∧ nwB ms ls xs n = true := by simp [nwL, nwB, h]
theorem nw_one (ms : List (List Int)) (ls xs : List (Int × Int)) : nwR ms ls xs 1 = onceR ms ls xs := by
  unfold nwR
  by_cases h : bndV ms ls xs.length = true ∧ ivsOk xs = true
  · rw [if_pos h]
    rfl
  · rw [if_neg h]
    unfold onceR
    rw [if_neg h]
theorem nw_all (ms : List (List Int)) (ls : List (Int × Int)) (n : Int) : nwR ms ls (begV n) 20 = narR ms ls n := by
  unfold nwR narR
  by_cases hn : inR n 1 6 = true
  · rw [begV_len hn]
    by_cases h : bndV ms ls n = true
    · rw [if_pos ⟨h, begV_ok n⟩, if_pos h]
    · rw [if_neg (fun q => h q.1), if_neg h]
  · have hn' : inR n 1 6 = false := by simpa using hn
    have h1 : bndV ms ls n = false := by
      cases h : bndV ms ls n
      · rfl
      · have := (isMat_true (bnd_true h).2.2.1).1
        rw [inR_true.2 this] at hn'
        cases hn'
    have h2 : bndV ms ls ((begV n).length : Int) = false := by
      cases h : bndV ms ls ((begV n).length : Int)
      · rfl
      · have := (isMat_true (bnd_true h).2.2.1).1
        rw [begV_no hn'] at this
        simp at this
    rw [h1, h2]
    simp
/-- One row of one pass done. -/
theorem it_once {ms : List (List Int)} {ls xs q : List (Int × Int)} {r : Nat} (hb : bndV ms ls xs.length = true) (hx : ivsOk xs = true) (h : itR ms ls (some xs) r = some q) : itR ms ls (some xs) (r + 1) = allR ms ls q ms.length := by
  have hn := it_narrow hx r q h
  simp only [itR, h]
  show onceR ms ls q = _
  unfold onceR
  rw [if_pos ⟨by rw [hn.1]; exact hb, hn.2.1⟩]
end Go.Proofs.Ythcinjlghhfhmaa
