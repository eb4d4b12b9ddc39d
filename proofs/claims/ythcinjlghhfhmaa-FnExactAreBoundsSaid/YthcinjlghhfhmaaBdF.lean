/- Bounds of delays: plain words. -/
import Derived.Test.YthcinjlghhfhmaaIvA
import Derived.Test.YthcinjlghhfhmaaMat
import Derived.Test.YthcinjlghhfhmaaDot
namespace Go.Proofs.Ythcinjlghhfhmaa
open Go.RowKit
def bitsOk (ms : List (List Int)) : Bool := ms.all (fun z => z.all (fun x => inR x 0 1))
def ivOk (p : Int × Int) : Bool := isV p.1 p.2 && decide (0 ≤ p.1)
def ivsOk (xs : List (Int × Int)) : Bool := xs.all ivOk
def bndV (ms : List (List Int)) (xs : List (Int × Int)) (n : Int) : Bool := bitsOk ms && (ivsOk xs && (isMat ms n && decide (xs.length = ms.length)))
def begV (n : Int) : List (Int × Int) := if inR n 1 6 = true then List.replicate n.toNat (0, 100000) else []
def iv (xs : List (Int × Int)) (k : Nat) : Int × Int := xs.getD k (0, 0)
def othLo (z : List Int) (xs : List (Int × Int)) (k : Nat) : Nat → Int
  | 0 => 0
  | i + 1 => othLo z xs k i + (if i ≠ k ∧ z.getD i 0 = 1 then (iv xs i).1 else 0)
def othHi (z : List Int) (xs : List (Int × Int)) (k : Nat) : Nat → Int
  | 0 => 0
  | i + 1 => othHi z xs k i + (if i ≠ k ∧ z.getD i 0 = 1 then (iv xs i).2 else 0)
def narLo (z : List Int) (y : Int × Int) (xs : List (Int × Int)) (k : Nat) : Int := maxV (iv xs k).1 (y.1 - othHi z xs k xs.length)
def narHi (z : List Int) (y : Int × Int) (xs : List (Int × Int)) (k : Nat) : Int := minV (iv xs k).2 (y.2 - othLo z xs k xs.length)
/-- One link by one row. -/
def cellK (z : List Int) (y : Int × Int) (k : Nat) (xs : List (Int × Int)) : Option (List (Int × Int)) :=
  if z.getD k 0 = 0 then some xs else if narHi z y xs k < narLo z y xs k then none else some (xs.set k (narLo z y xs k, narHi z y xs k))
/-- The first k links by one row. -/
def rowK (z : List Int) (y : Int × Int) (q : Option (List (Int × Int))) : Nat → Option (List (Int × Int))
  | 0 => q
  | k + 1 => (rowK z y q k).bind (cellK z y k)
/-- By the first i rows. -/
def allR (ms : List (List Int)) (ls xs : List (Int × Int)) : Nat → Option (List (Int × Int))
  | 0 => some xs
  | i + 1 => rowK (row ms i) (iv ls i) (allR ms ls xs i) xs.length
def onceR (ms : List (List Int)) (ls xs : List (Int × Int)) : Option (List (Int × Int)) :=
  if bndV ms ls xs.length = true ∧ ivsOk xs = true then allR ms ls xs ms.length else none
def itR (ms : List (List Int)) (ls : List (Int × Int)) (q : Option (List (Int × Int))) : Nat → Option (List (Int × Int))
  | 0 => q
  | k + 1 => (itR ms ls q k).bind (onceR ms ls)
def narR (ms : List (List Int)) (ls : List (Int × Int)) (n : Int) : Option (List (Int × Int)) := if bndV ms ls n = true then itR ms ls (some (begV n)) 20 else none
def alwV (ms : List (List Int)) (ls : List (Int × Int)) (ds : List Int) : Bool :=
  ds.all (fun x => inR x 0 100000) && (bndV ms ls ds.length && (List.range ms.length).all (fun i => inR (dotV (row ms i) ds) (iv ls i).1 (iv ls i).2))
theorem ivOk_true {p : Int × Int} : ivOk p = true ↔ 0 ≤ p.1 ∧ p.1 ≤ p.2 ∧ p.2 ≤ 100000 := by
  unfold ivOk
  rw [Bool.and_eq_true, isV_true, decide_eq_true_eq]
  omega
theorem iv_mem {xs : List (Int × Int)} {k : Nat} (h : k < xs.length) : iv xs k ∈ xs := by simp [iv, List.getD, h]
theorem ivsOk_true {xs : List (Int × Int)} : ivsOk xs = true ↔ ∀ k, k < xs.length → 0 ≤ (iv xs k).1 ∧ (iv xs k).1 ≤ (iv xs k).2 ∧ (iv xs k).2 ≤ 100000 := by
  unfold ivsOk
  rw [List.all_eq_true]
  constructor
  · intro h k hk
    exact ivOk_true.1 (h _ (iv_mem hk))
  · intro h p hp
    obtain ⟨k, hk, rfl⟩ := List.mem_iff_getElem.1 hp
    have := h k hk
    rw [show iv xs k = xs[k] by simp [iv, List.getD, hk]] at this
    exact ivOk_true.2 this
theorem ivsOk_no {xs : List (Int × Int)} {k : Nat} (hk : k < xs.length) (h : ivOk (iv xs k) = false) : ivsOk xs = false := by
  cases h1 : ivsOk xs
  · rfl
  · have := List.all_eq_true.1 h1 _ (iv_mem hk)
    rw [h] at this
    cases this
theorem ivsOk_all {xs : List (Int × Int)} (h : ∀ k, k < xs.length → ivOk (iv xs k) = true) : ivsOk xs = true := ivsOk_true.2 (fun k hk => ivOk_true.1 (h k hk))
theorem bitsOk_no {ms : List (List Int)} {r k : Nat} (hr : r < ms.length) (hk : k < (row ms r).length) (h : inR ((row ms r).getD k 0) 0 1 = false) : bitsOk ms = false := by
  cases h1 : bitsOk ms
  · rfl
  · have h2 := List.all_eq_true.1 (List.all_eq_true.1 h1 _ (row_mem hr)) _ (getD_mem hk)
    rw [h] at h2
    cases h2
theorem bitsOk_all {ms : List (List Int)} (h : ∀ r, r < ms.length → ∀ k, k < (row ms r).length → inR ((row ms r).getD k 0) 0 1 = true) : bitsOk ms = true := by
  refine List.all_eq_true.2 (fun z hz => List.all_eq_true.2 (fun x hx => ?_))
  obtain ⟨r, hr, rfl⟩ := List.mem_iff_getElem.1 hz
  obtain ⟨k, hk, rfl⟩ := List.mem_iff_getElem.1 hx
  have e : row ms r = ms[r] := by simp [row, List.getD, hr]
  have := h r hr k (by rw [e]; exact hk)
  rw [e] at this
  simpa [List.getD, hk] using this
theorem bitsOk_at {ms : List (List Int)} (h : bitsOk ms = true) {r k : Nat} (hr : r < ms.length) (hk : k < (row ms r).length) : (row ms r).getD k 0 = 0 ∨ (row ms r).getD k 0 = 1 := by
  have h2 := inR_true.1 (List.all_eq_true.1 (List.all_eq_true.1 h _ (row_mem hr)) _ (getD_mem hk))
  omega
theorem bnd_bits {ms : List (List Int)} {xs : List (Int × Int)} {n : Int} (h : bitsOk ms = false) : bndV ms xs n = false := by simp [bndV, h]
theorem bnd_ivs {ms : List (List Int)} {xs : List (Int × Int)} {n : Int} (h : ivsOk xs = false) : bndV ms xs n = false := by simp [bndV, h]
theorem bnd_yes {ms : List (List Int)} {xs : List (Int × Int)} {n : Int} (h1 : bitsOk ms = true) (h2 : ivsOk xs = true) : bndV ms xs n = (isMat ms n && decide (xs.length = ms.length)) := by simp [bndV, h1, h2]
theorem bnd_true {ms : List (List Int)} {xs : List (Int × Int)} {n : Int} (h : bndV ms xs n = true) : bitsOk ms = true ∧ ivsOk xs = true ∧ isMat ms n = true ∧ xs.length = ms.length := by
  unfold bndV at h
  simp only [Bool.and_eq_true, decide_eq_true_eq] at h
  exact h
theorem begV_len {n : Int} (h : inR n 1 6 = true) : ((begV n).length : Int) = n := by
  have := inR_true.1 h
  simp [begV, h]
  omega
theorem begV_no {n : Int} (h : inR n 1 6 = false) : begV n = [] := by simp [begV, h]
theorem begV_at {n : Int} {k : Nat} (h : k < (begV n).length) : iv (begV n) k = (0, 100000) := by
  unfold begV at h ⊢
  split at h
  · rename_i hn
    rw [if_pos hn]
    have : k < n.toNat := by simpa using h
    simp [iv, List.getD, this]
  · simp at h
theorem begV_ok (n : Int) : ivsOk (begV n) = true := ivsOk_true.2 (fun k hk => by rw [begV_at hk]; omega)
theorem begV_small (n : Int) : (begV n).length ≤ 6 := by
  unfold begV
  split
  · rename_i h
    have := inR_true.1 h
    simp
    omega
  · simp
theorem iv_set_same {xs : List (Int × Int)} {k : Nat} {p : Int × Int} (h : k < xs.length) : iv (xs.set k p) k = p := by simp [iv, List.getD, h]
theorem iv_set_other {xs : List (Int × Int)} {k j : Nat} {p : Int × Int} (h : j ≠ k) : iv (xs.set k p) j = iv xs j := by simp [iv, List.getD, Ne.symm h]
theorem max_le (a b : Int) : a ≤ maxV a b ∧ b ≤ maxV a b ∧ (maxV a b = a ∨ maxV a b = b) := by
  unfold maxV; split <;> omega
theorem min_le (a b : Int) : minV a b ≤ a ∧ minV a b ≤ b ∧ (minV a b = a ∨ minV a b = b) := by
  unfold minV; split <;> omega
theorem oth_bound {z : List Int} {xs : List (Int × Int)} (h : ivsOk xs = true) (k : Nat) : ∀ i, i ≤ xs.length → 0 ≤ othLo z xs k i ∧ othLo z xs k i ≤ othHi z xs k i ∧ othHi z xs k i ≤ 100000 * (i : Int)
  | 0, _ => ⟨Int.le_refl _, Int.le_refl _, Int.le_refl _⟩
  | i + 1, hi => by
    have ih := oth_bound h k i (by omega) (z := z)
    have hv := ivsOk_true.1 h i (by omega)
    simp only [othLo, othHi]
    split <;> omega
theorem cell_len {z : List Int} {y : Int × Int} {k : Nat} {xs q : List (Int × Int)} (h : cellK z y k xs = some q) : q.length = xs.length := by
  unfold cellK at h
  split at h
  · cases h; rfl
  · split at h
    · cases h
    · cases h; simp
theorem cell_ok {z : List Int} {y : Int × Int} {k : Nat} {xs q : List (Int × Int)} (hx : ivsOk xs = true) (hk : k < xs.length) (h : cellK z y k xs = some q) :
    ivsOk q = true ∧ ∀ j, j < xs.length → (iv xs j).1 ≤ (iv q j).1 ∧ (iv q j).2 ≤ (iv xs j).2 := by
  have hl := cell_len h
  unfold cellK at h
  split at h
  · cases h
    exact ⟨hx, fun _ _ => ⟨Int.le_refl _, Int.le_refl _⟩⟩
  · split at h
    · cases h
    · rename_i h1 h2
      cases h
      have hv := ivsOk_true.1 hx
      have m1 := max_le (iv xs k).1 (y.1 - othHi z xs k xs.length)
      have m2 := min_le (iv xs k).2 (y.2 - othLo z xs k xs.length)
      have key : ∀ j, j < xs.length → (0 ≤ (iv (xs.set k (narLo z y xs k, narHi z y xs k)) j).1 ∧ (iv (xs.set k (narLo z y xs k, narHi z y xs k)) j).1 ≤ (iv (xs.set k (narLo z y xs k, narHi z y xs k)) j).2 ∧ (iv (xs.set k (narLo z y xs k, narHi z y xs k)) j).2 ≤ 100000) ∧ (iv xs j).1 ≤ (iv (xs.set k (narLo z y xs k, narHi z y xs k)) j).1 ∧ (iv (xs.set k (narLo z y xs k, narHi z y xs k)) j).2 ≤ (iv xs j).2 := by
        intro j hj
        have hvj := hv j hj
        by_cases e : j = k
        · subst e
          rw [iv_set_same hj]
          unfold narLo narHi at h2 ⊢
          simp only
          omega
        · rw [iv_set_other e]
          exact ⟨hvj, Int.le_refl _, Int.le_refl _⟩
      exact ⟨ivsOk_true.2 (fun j hj => (key j (by rw [← hl]; exact hj)).1), fun j hj => (key j hj).2⟩
/-- Narrower than xs, as long, and valid. -/
def Narrow (xs q : List (Int × Int)) : Prop := q.length = xs.length ∧ ivsOk q = true ∧ ∀ j, j < xs.length → (iv xs j).1 ≤ (iv q j).1 ∧ (iv q j).2 ≤ (iv xs j).2
theorem Narrow.refl {xs : List (Int × Int)} (h : ivsOk xs = true) : Narrow xs xs := ⟨rfl, h, fun _ _ => ⟨Int.le_refl _, Int.le_refl _⟩⟩
theorem Narrow.trans {a b c : List (Int × Int)} (h : Narrow a b) (g : Narrow b c) : Narrow a c :=
  ⟨g.1.trans h.1, g.2.1, fun j hj => by have h1 := h.2.2 j hj; have h2 := g.2.2 j (by rw [h.1]; exact hj); omega⟩
theorem row_narrow {z : List Int} {y : Int × Int} {xs : List (Int × Int)} (hx : ivsOk xs = true) : ∀ k, k ≤ xs.length → ∀ q, rowK z y (some xs) k = some q → Narrow xs q
  | 0, _, _, h => by cases h; exact Narrow.refl hx
  | k + 1, hk, q, h => by
    simp only [rowK] at h
    cases hr : rowK z y (some xs) k with
    | none => rw [hr] at h; cases h
    | some p =>
      rw [hr] at h
      have ih := row_narrow hx k (by omega) p hr
      have hc := cell_ok ih.2.1 (by rw [ih.1]; omega) h
      exact ih.trans ⟨cell_len h, hc.1, hc.2⟩
theorem all_narrow {ms : List (List Int)} {ls xs : List (Int × Int)} (hx : ivsOk xs = true) : ∀ i q, allR ms ls xs i = some q → Narrow xs q
  | 0, q, h => by cases h; exact Narrow.refl hx
  | i + 1, q, h => by
    simp only [allR] at h
    cases hr : allR ms ls xs i with
    | none =>
      rw [hr] at h
      exfalso
      have : ∀ k, rowK (row ms i) (iv ls i) none k = none := fun k => by
        induction k with
        | zero => rfl
        | succ k ih => simp only [rowK, ih]; rfl
      rw [this] at h
      cases h
    | some p =>
      rw [hr] at h
      have ih := all_narrow hx i p hr
      rw [← ih.1] at h
      exact ih.trans (row_narrow ih.2.1 _ (Nat.le_refl _) q h)
theorem row_none (z : List Int) (y : Int × Int) : ∀ k, rowK z y none k = none
  | 0 => rfl
  | k + 1 => by simp only [rowK, row_none z y k]; rfl
theorem row_stop {z : List Int} {y : Int × Int} {q : Option (List (Int × Int))} {k : Nat} (h : rowK z y q k = none) : ∀ n, k ≤ n → rowK z y q n = none
  | 0, hn => by obtain rfl : k = 0 := by omega
                exact h
  | n + 1, hn => by
    by_cases e : k = n + 1
    · rw [← e]; exact h
    · simp only [rowK, row_stop h n (by omega)]; rfl
theorem all_stop10 {ms : List (List Int)} {ls xs : List (Int × Int)} {i : Nat} (h : allR ms ls xs i = none) : ∀ n, i ≤ n → allR ms ls xs n = none
  | 0, hn => by obtain rfl : i = 0 := by omega
                exact h
  | n + 1, hn => by
    by_cases e : i = n + 1
    · rw [← e]; exact h
    · simp only [allR, all_stop10 h n (by omega), row_none]
theorem once_narrow {ms : List (List Int)} {ls xs q : List (Int × Int)} (h : onceR ms ls xs = some q) : Narrow xs q := by
  unfold onceR at h
  split at h
  · rename_i hc
    exact all_narrow hc.2 _ _ h
  · cases h
theorem it_none (ms : List (List Int)) (ls : List (Int × Int)) : ∀ k, itR ms ls none k = none
  | 0 => rfl
  | k + 1 => by simp only [itR, it_none ms ls k]; rfl
theorem it_stop {ms : List (List Int)} {ls : List (Int × Int)} {q : Option (List (Int × Int))} {k : Nat} (h : itR ms ls q k = none) : ∀ n, k ≤ n → itR ms ls q n = none
  | 0, hn => by obtain rfl : k = 0 := by omega
                exact h
  | n + 1, hn => by
    by_cases e : k = n + 1
    · rw [← e]; exact h
    · simp only [itR, it_stop h n (by omega)]; rfl
theorem it_fix {ms : List (List Int)} {ls x : List (Int × Int)} {q : Option (List (Int × Int))} {k : Nat} (h : itR ms ls q k = some x) (hx : onceR ms ls x = some x) : ∀ n, k ≤ n → itR ms ls q n = some x
  | 0, hn => by obtain rfl : k = 0 := by omega
                exact h
  | n + 1, hn => by
    by_cases e : k = n + 1
    · rw [← e]; exact h
    · simp only [itR, it_fix h hx n (by omega)]
      exact hx
theorem it_narrow {ms : List (List Int)} {ls xs : List (Int × Int)} (hx : ivsOk xs = true) : ∀ k q, itR ms ls (some xs) k = some q → Narrow xs q
  | 0, q, h => by cases h; exact Narrow.refl hx
  | k + 1, q, h => by
    simp only [itR] at h
    cases hr : itR ms ls (some xs) k with
    | none => rw [hr] at h; cases h
    | some p =>
      rw [hr] at h
      exact (it_narrow hx k p hr).trans (once_narrow h)
theorem nar_narrow {ms : List (List Int)} {ls q : List (Int × Int)} {n : Int} (h : narR ms ls n = some q) : Narrow (begV n) q := by
  unfold narR at h
  split at h
  · exact it_narrow (begV_ok n) _ _ h
  · cases h
/-- The delays lie in the intervals. -/
def Within (ds : List Int) (xs : List (Int × Int)) : Prop := ∀ k, k < xs.length → (iv xs k).1 ≤ ds.getD k 0 ∧ ds.getD k 0 ≤ (iv xs k).2
def othD (z ds : List Int) (k : Nat) : Nat → Int
  | 0 => 0
  | i + 1 => othD z ds k i + (if i ≠ k ∧ z.getD i 0 = 1 then ds.getD i 0 else 0)
theorem oth_between {z ds : List Int} {xs : List (Int × Int)} (hw : Within ds xs) (k : Nat) : ∀ i, i ≤ xs.length → othLo z xs k i ≤ othD z ds k i ∧ othD z ds k i ≤ othHi z xs k i
  | 0, _ => ⟨Int.le_refl _, Int.le_refl _⟩
  | i + 1, hi => by
    have ih := oth_between hw k i (by omega) (z := z)
    have hv := hw i (by omega)
    simp only [othLo, othHi, othD]
    split <;> omega
theorem othD_bound {z ds : List Int} {n : Nat} (hd : ∀ i, i < n → 0 ≤ ds.getD i 0 ∧ ds.getD i 0 ≤ 100000) (k : Nat) : ∀ i, i ≤ n → 0 ≤ othD z ds k i ∧ othD z ds k i ≤ 100000 * (i : Int)
  | 0, _ => ⟨Int.le_refl _, Int.le_refl _⟩
  | i + 1, hi => by
    have ih := othD_bound hd k i (by omega) (z := z)
    have hv := hd i (by omega)
    simp only [othD]
    split <;> omega
theorem dot_oth {z ds : List Int} {n : Nat} (hn : n ≤ 6) (hd : ∀ i, i < n → 0 ≤ ds.getD i 0 ∧ ds.getD i 0 ≤ 100000) (hb : ∀ i, i < n → z.getD i 0 = 0 ∨ z.getD i 0 = 1) (k : Nat) (hk : k < n) : ∀ i, i ≤ n → dotW z ds i = othD z ds k i + (if k < i ∧ z.getD k 0 = 1 then ds.getD k 0 else 0)
  | 0, _ => by simp [dotW, othD]
  | i + 1, hi => by
    have ih := dot_oth hn hd hb k hk i (by omega)
    have h01 := hb i (by omega)
    have hdi := hd i (by omega)
    have hdk := hd k hk
    have hob := othD_bound hd k i (by omega) (z := z)
    have wr : ∀ x : Int, 0 ≤ x → x ≤ 1000000 → IntKind.i64.wrap x = x := fun x h0 h1 => IntWalk.i64_in x (by omega)
    simp only [dotW, othD, ih]
    have hz : IntKind.i64.wrap (z.getD i 0 * ds.getD i 0) = if z.getD i 0 = 1 then ds.getD i 0 else 0 := by
      rcases h01 with h0 | h1
      · rw [h0, if_neg (by omega), Int.zero_mul]; exact wr 0 (by omega) (by omega)
      · rw [h1, if_pos rfl, Int.one_mul]; exact wr _ (by omega) (by omega)
    rw [hz]
    by_cases e : i = k
    · subst e
      rw [if_neg (c := i < i ∧ z.getD i 0 = 1) (by omega), if_neg (c := i ≠ i ∧ z.getD i 0 = 1) (by omega)]
      rcases h01 with h0 | h1
      · rw [if_neg (c := z.getD i 0 = 1) (by omega), if_neg (by omega)]; exact wr _ (by omega) (by omega)
      · rw [if_pos h1, if_pos ⟨by omega, h1⟩]
        rw [wr _ (by omega) (by omega)]
    · have hc : (k < i + 1 ∧ z.getD k 0 = 1) ↔ (k < i ∧ z.getD k 0 = 1) := ⟨fun h => ⟨by omega, h.2⟩, fun h => ⟨by omega, h.2⟩⟩
      simp only [hc]
      have hkb : 0 ≤ (if k < i ∧ z.getD k 0 = 1 then ds.getD k 0 else 0) ∧ (if k < i ∧ z.getD k 0 = 1 then ds.getD k 0 else 0) ≤ 100000 := by split <;> omega
      rcases h01 with h0 | h1
      · rw [if_neg (c := z.getD i 0 = 1) (by omega), if_neg (c := i ≠ k ∧ z.getD i 0 = 1) (by omega), wr _ (by omega) (by omega)]; omega
      · rw [if_pos h1, if_pos (c := i ≠ k ∧ z.getD i 0 = 1) ⟨e, h1⟩, wr _ (by omega) (by omega)]; omega
theorem cell_sound {z ds : List Int} {y : Int × Int} {k : Nat} {xs : List (Int × Int)} (hn : xs.length ≤ 6) (hdd : ∀ i, i < xs.length → 0 ≤ ds.getD i 0 ∧ ds.getD i 0 ≤ 100000) (hb : ∀ i, i < xs.length → z.getD i 0 = 0 ∨ z.getD i 0 = 1) (hk : k < xs.length) (hw : Within ds xs)
    (hd : y.1 ≤ dotW z ds xs.length ∧ dotW z ds xs.length ≤ y.2) : ∃ q, cellK z y k xs = some q ∧ Within ds q := by
  unfold cellK
  by_cases h0 : z.getD k 0 = 0
  · rw [if_pos h0]
    exact ⟨xs, rfl, hw⟩
  · rw [if_neg h0]
    have h1 : z.getD k 0 = 1 := by have := hb k hk; omega
    have hdo := dot_oth hn hdd hb k hk xs.length (Nat.le_refl _)
    rw [if_pos ⟨hk, h1⟩] at hdo
    have hob := oth_between hw k xs.length (Nat.le_refl _) (z := z)
    have hwk := hw k hk
    have m1 := max_le (iv xs k).1 (y.1 - othHi z xs k xs.length)
    have m2 := min_le (iv xs k).2 (y.2 - othLo z xs k xs.length)
    have hlo : narLo z y xs k ≤ ds.getD k 0 := by unfold narLo; omega
    have hhi : ds.getD k 0 ≤ narHi z y xs k := by unfold narHi; omega
    rw [if_neg (by omega)]
    refine ⟨_, rfl, fun j hj => ?_⟩
    have hj2 : j < xs.length := by simpa using hj
    by_cases e : j = k
    · subst e
      rw [iv_set_same hj2]
      exact ⟨hlo, hhi⟩
    · rw [iv_set_other e]
      exact hw j hj2
theorem row_sound {z ds : List Int} {y : Int × Int} {xs : List (Int × Int)} (hn : xs.length ≤ 6) (hdd : ∀ i, i < xs.length → 0 ≤ ds.getD i 0 ∧ ds.getD i 0 ≤ 100000) (hb : ∀ i, i < xs.length → z.getD i 0 = 0 ∨ z.getD i 0 = 1) (hw : Within ds xs)
    (hd : y.1 ≤ dotW z ds xs.length ∧ dotW z ds xs.length ≤ y.2) : ∀ k, k ≤ xs.length → ∃ q, rowK z y (some xs) k = some q ∧ q.length = xs.length ∧ Within ds q
  | 0, _ => ⟨xs, rfl, rfl, hw⟩
  | k + 1, hk => by
    obtain ⟨p, h1, h2, h3⟩ := row_sound hn hdd hb hw hd k (by omega)
    simp only [rowK, h1]
    obtain ⟨q, h4, h5⟩ := cell_sound (z := z) (ds := ds) (y := y) (k := k) (xs := p) (by rw [h2]; exact hn) (by rw [h2]; exact hdd) (by rw [h2]; exact hb) (by rw [h2]; omega) h3 (by rw [h2]; exact hd)
    exact ⟨q, h4, (cell_len h4).trans h2, h5⟩
theorem bnd_row {ms : List (List Int)} {ls : List (Int × Int)} {n : Nat} (h : bndV ms ls n = true) {i : Nat} (hi : i < ms.length) : (row ms i).length = n ∧ ∀ k, k < n → (row ms i).getD k 0 = 0 ∨ (row ms i).getD k 0 = 1 := by
  obtain ⟨h1, _, h3, _⟩ := bnd_true h
  obtain ⟨_, _, h4⟩ := isMat_true h3
  have hl : (row ms i).length = n := by have := (h4 i hi).1; omega
  exact ⟨hl, fun k hk => bitsOk_at h1 hi (by rw [hl]; exact hk)⟩
theorem alw_true {ms : List (List Int)} {ls : List (Int × Int)} {ds : List Int} (h : alwV ms ls ds = true) : (∀ k, k < ds.length → 0 ≤ ds.getD k 0 ∧ ds.getD k 0 ≤ 100000) ∧ bndV ms ls ds.length = true ∧ ∀ i, i < ms.length → (iv ls i).1 ≤ dotV (row ms i) ds ∧ dotV (row ms i) ds ≤ (iv ls i).2 := by
  unfold alwV at h
  simp only [Bool.and_eq_true, List.all_eq_true, List.mem_range, inR_true] at h
  exact ⟨fun k hk => h.1 _ (getD_mem hk), h.2.1, fun i hi => h.2.2 i hi⟩
theorem all_sound {ms : List (List Int)} {ls xs : List (Int × Int)} {ds : List Int} (hdd : ∀ i, i < xs.length → 0 ≤ ds.getD i 0 ∧ ds.getD i 0 ≤ 100000) (hb : bndV ms ls xs.length = true) (hl : ds.length = xs.length) (hd : ∀ i, i < ms.length → (iv ls i).1 ≤ dotV (row ms i) ds ∧ dotV (row ms i) ds ≤ (iv ls i).2) (hw : Within ds xs) :
    ∀ i, i ≤ ms.length → ∃ q, allR ms ls xs i = some q ∧ q.length = xs.length ∧ Within ds q
  | 0, _ => ⟨xs, rfl, rfl, hw⟩
  | i + 1, hi => by
    obtain ⟨p, h1, h2, h3⟩ := all_sound hdd hb hl hd hw i (by omega)
    simp only [allR, h1]
    obtain ⟨h4, h5⟩ := bnd_row hb (i := i) (by omega)
    have h6 := hd i (by omega)
    have h7 : dotV (row ms i) ds = dotW (row ms i) ds p.length := by unfold dotV; rw [h4, hl, h2, Nat.min_self]
    rw [h7] at h6
    rw [← h2]
    obtain ⟨q, g1, g2, g3⟩ := row_sound (z := row ms i) (y := iv ls i) (by have := (isMat_true (bnd_true hb).2.2.1).1; omega) (by rw [h2]; exact hdd) (by rw [h2]; exact h5) h3 h6 p.length (Nat.le_refl _)
    exact ⟨q, g1, g2.trans rfl, g3⟩
theorem once_sound {ms : List (List Int)} {ls xs : List (Int × Int)} {ds : List Int} (hx : ivsOk xs = true) (hl : ds.length = xs.length) (ha : alwV ms ls ds = true) (hw : Within ds xs) : ∃ q, onceR ms ls xs = some q ∧ Within ds q := by
  obtain ⟨h1, h2, h3⟩ := alw_true ha
  unfold onceR
  rw [if_pos ⟨by rw [← hl]; exact h2, hx⟩]
  obtain ⟨q, g1, _, g3⟩ := all_sound (by rw [← hl]; exact h1) (by rw [← hl]; exact h2) hl h3 hw ms.length (Nat.le_refl _)
  exact ⟨q, g1, g3⟩
theorem it_sound {ms : List (List Int)} {ls xs : List (Int × Int)} {ds : List Int} (hx : ivsOk xs = true) (hl : ds.length = xs.length) (ha : alwV ms ls ds = true) (hw : Within ds xs) : ∀ k, ∃ q, itR ms ls (some xs) k = some q ∧ Within ds q
  | 0 => ⟨xs, rfl, hw⟩
  | k + 1 => by
    obtain ⟨p, h1, h2⟩ := it_sound hx hl ha hw k
    have hn := it_narrow hx k p h1
    obtain ⟨q, h3, h4⟩ := once_sound hn.2.1 (hl.trans hn.1.symm) ha h2
    exact ⟨q, by simp only [itR, h1]; exact h3, h4⟩
/-- Delays that a measurement allows are never cut off. -/
theorem nar_sound {ms : List (List Int)} {ls : List (Int × Int)} {ds : List Int} (ha : alwV ms ls ds = true) : ∃ q, narR ms ls ds.length = some q ∧ Within ds q := by
  obtain ⟨h1, h2, _⟩ := alw_true ha
  have hn : inR (ds.length : Int) 1 6 = true := inR_true.2 (isMat_true (bnd_true h2).2.2.1).1
  have hl : (begV ds.length).length = ds.length := by have := begV_len hn; omega
  unfold narR
  rw [if_pos h2]
  exact it_sound (begV_ok _) hl.symm ha (fun k hk => by rw [begV_at hk]; exact h1 k (by omega)) 20
theorem nar_len {ms : List (List Int)} {ls q : List (Int × Int)} {n : Nat} (h : narR ms ls n = some q) : q.length = n := by
  have h1 := (nar_narrow h).1
  unfold narR at h
  split at h
  · rename_i hb
    have hn : inR (n : Int) 1 6 = true := inR_true.2 (isMat_true (bnd_true hb).2.2.1).1
    have := begV_len hn
    omega
  · cases h
end Go.Proofs.Ythcinjlghhfhmaa
