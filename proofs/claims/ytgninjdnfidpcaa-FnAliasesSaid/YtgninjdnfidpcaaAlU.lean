/- Replies in the order of their times; groups as a union of parents: plain words. -/
import Derived.Test.YtgninjdnfidpcaaAlG
import Derived.Test.YtgninjdnfidpcaaCmpG
namespace Go.Proofs.Ytgninjdnfidpcaa
open Go.RowKit
/-- The Ids of those whose address is among them ascend, from a last one on. -/
def ascB (ad : List Int) : Int → List (Int × Int × Int) → Bool
  | _, [] => true
  | l, p :: r => if hasB ad p.1 = true then (if p.2.2 ≤ l then false else ascB ad p.2.2 r) else ascB ad l r
theorem ascB_true {ad : List Int} : ∀ {l : Int} {zs : List (Int × Int × Int)}, ascB ad l zs = true ↔ (∀ p ∈ zs, hasB ad p.1 = true → l < p.2.2) ∧ zs.Pairwise (fun p q => hasB ad p.1 = true → hasB ad q.1 = true → p.2.2 < q.2.2)
  | l, [] => by simp [ascB]
  | l, p :: r => by
    unfold ascB
    by_cases h : hasB ad p.1 = true
    · rw [if_pos h]
      by_cases h1 : p.2.2 ≤ l
      · rw [if_pos h1]
        simp only [Bool.false_eq_true, false_iff]
        rintro ⟨h2, _⟩
        have := h2 p (List.mem_cons_self ..) h
        omega
      · rw [if_neg h1, ascB_true (l := p.2.2) (zs := r), List.pairwise_cons]
        constructor
        · rintro ⟨h2, h3⟩
          refine ⟨fun q hq hh => ?_, fun q hq _ hh => h2 q hq hh, h3⟩
          rcases List.mem_cons.1 hq with rfl | hq
          · omega
          · have := h2 q hq hh
            omega
        · rintro ⟨_, h2, h3⟩
          exact ⟨fun q hq hh => h2 q hq h hh, h3⟩
    · rw [if_neg h, ascB_true (l := l) (zs := r), List.pairwise_cons]
      constructor
      · rintro ⟨h2, h3⟩
        refine ⟨fun q hq hh => ?_, fun q _ hh => absurd hh h, h3⟩
        rcases List.mem_cons.1 hq with rfl | hq
        · exact absurd hh h
        · exact h2 q hq hh
      · rintro ⟨h2, _, h3⟩
        exact ⟨fun q hq => h2 q (List.mem_cons_of_mem _ hq), h3⟩
/-- zs are xs in the order of their times. -/
def Sorted (xs zs : List (Int × Int × Int)) : Prop := xs.Perm zs ∧ zs.Pairwise (fun p q => ¬ q.2.1 < p.2.1)
theorem times_diff {xs : List (Int × Int × Int)} (h : areR xs = true) : xs.Pairwise (fun p q => ¬ p.2.1 = q.2.1) := by
  refine List.pairwise_iff_getElem.2 fun i j hi hj hij e => ?_
  have := ((areR_true.1 h).1 j hj).2 i hij
  simp [rep, List.getD, hi, hj] at this
  exact this e
theorem sorted_strict {xs zs : List (Int × Int × Int)} (h : areR xs = true) (hs : Sorted xs zs) : zs.Pairwise (fun p q => p.2.1 < q.2.1) := by
  have hd : zs.Pairwise (fun p q => ¬ p.2.1 = q.2.1) := hs.1.pairwise (times_diff h) (fun hab e => hab e.symm)
  exact (hd.and hs.2).imp (fun h => by omega)
theorem sorted_may {xs zs : List (Int × Int × Int)} {ad : List Int} (h : areR xs = true) (hs : Sorted xs zs) : ascB ad (-1) zs = mayB xs ad := by
  have hst := sorted_strict h hs
  have e : ascB ad (-1) zs = true ↔ mayB xs ad = true := by
    rw [ascB_true, mayB_true]
    constructor
    · rintro ⟨_, hp⟩
      refine ⟨fun i hi k hk => ?_, h⟩
      cases h1 : apart2 xs ad i k
      · rfl
      · unfold apart2 at h1
        simp only [Bool.and_eq_true, decide_eq_true_eq] at h1
        obtain ⟨ha, hb, ht, hid⟩ := h1
        obtain ⟨m, hm, em⟩ := List.getElem_of_mem (hs.1.mem_iff.1 (rep_mem hi))
        obtain ⟨n, hn, en⟩ := List.getElem_of_mem (hs.1.mem_iff.1 (rep_mem hk))
        have hmn : m < n := by
          rcases Nat.lt_trichotomy m n with h2 | h2 | h2
          · exact h2
          · subst h2
            rw [em] at en
            rw [en] at ht
            omega
          · have := List.pairwise_iff_getElem.1 hst n m hn hm h2
            rw [em, en] at this
            omega
        have := List.pairwise_iff_getElem.1 hp m n hm hn hmn
        rw [em, en] at this
        have := this ha hb
        omega
    · rintro ⟨hap, _⟩
      have hall : ∀ p ∈ zs, ∃ i, i < xs.length ∧ rep xs i = p := fun p hp => by
        obtain ⟨i, hi, e⟩ := List.getElem_of_mem (hs.1.mem_iff.2 hp)
        exact ⟨i, hi, by simp [rep, List.getD, hi, e]⟩
      refine ⟨fun p hp _ => ?_, ?_⟩
      · obtain ⟨i, hi, rfl⟩ := hall p hp
        have := ((areR_true.1 h).1 i hi).1
        unfold repOk inR at this
        simp only [Bool.and_eq_true, decide_eq_true_eq] at this
        omega
      · refine List.pairwise_iff_getElem.2 fun m n hm hn hmn ha hb => ?_
        obtain ⟨i, hi, ei⟩ := hall _ (List.getElem_mem hm)
        obtain ⟨k, hk, ek⟩ := hall _ (List.getElem_mem hn)
        have h1 := hap i hi k hk
        have ht := List.pairwise_iff_getElem.1 hst m n hm hn hmn
        unfold apart2 at h1
        rw [ei, ek, ha, hb, decide_eq_true ht] at h1
        simp only [Bool.true_and, decide_eq_false_iff_not] at h1
        omega
  cases h1 : ascB ad (-1) zs
  · cases h2 : mayB xs ad
    · rfl
    · rw [e.2 h2] at h1; cases h1
  · exact (e.1 h1).symm
theorem addr_mem2 {xs : List (Int × Int × Int)} {x : Int} : x ∈ addrV xs ↔ ∃ p ∈ xs, p.1 = x := by
  rw [addr_mem]
  constructor
  · rintro ⟨k, hk, e⟩
    exact ⟨_, rep_mem hk, e⟩
  · rintro ⟨p, hp, e⟩
    obtain ⟨k, hk, ek⟩ := List.getElem_of_mem hp
    exact ⟨k, hk, by simp [rep, List.getD, hk, ek, e]⟩
theorem sorted_addr {xs zs : List (Int × Int × Int)} (hs : Sorted xs zs) : addrV zs = addrV xs := by
  refine asc_uniq (addr_asc _) (addr_asc _) fun x => ?_
  rw [addr_mem2, addr_mem2]
  constructor
  · rintro ⟨p, hp, e⟩
    exact ⟨p, hs.1.mem_iff.2 hp, e⟩
  · rintro ⟨p, hp, e⟩
    exact ⟨p, hs.1.mem_iff.1 hp, e⟩
/-! Groups by parents. -/
/-- The addresses among the first n whose parent is f. -/
def fromK (ad : List Int) (ps : List Int) (f : Int) : Nat → List Int
  | 0 => []
  | n + 1 => if ps.getD n 0 = f then fromK ad ps f n ++ [ad.getD n 0] else fromK ad ps f n
def fromV (ad : List Int) (ps : List Int) (f : Int) : List Int := fromK ad ps f ps.length
/-- Address i may join the group that f began. -/
def joinsB (xs : List (Int × Int × Int)) (ad ps : List Int) (i : Nat) (f : Nat) : Bool := decide (0 < (fromV ad ps f).length) && mayB xs (fromV ad ps f ++ [ad.getD i 0])
/-- The parent of address i: the first that it may join, or itself. -/
def parV (xs : List (Int × Int × Int)) (ad ps : List Int) (i : Nat) : Nat := ((List.range i).find? (fun f => joinsB xs ad ps i f)).getD i
/-- The parents of the first n addresses. -/
def parsK (xs : List (Int × Int × Int)) (ad : List Int) : Nat → List Int
  | 0 => []
  | n + 1 => parsK xs ad n ++ [(parV xs ad (parsK xs ad n) n : Int)]
theorem parsK_len (xs : List (Int × Int × Int)) (ad : List Int) : ∀ n, (parsK xs ad n).length = n
  | 0 => rfl
  | n + 1 => by rw [parsK, List.length_append, parsK_len xs ad n]; rfl
theorem parV_is {xs : List (Int × Int × Int)} {ad ps : List Int} {i f : Nat} (hf : f < i) (h : joinsB xs ad ps i f = true) (h1 : ∀ g, g < f → joinsB xs ad ps i g = false) : parV xs ad ps i = f := by
  unfold parV
  have : (List.range i).find? (fun f => joinsB xs ad ps i f) = some f := by
    rw [List.find?_eq_some_iff_getElem]
    exact ⟨h, f, by simpa using hf, by simp, fun j hj => by simp [h1 j hj]⟩
  rw [this]; rfl
theorem parV_self {xs : List (Int × Int × Int)} {ad ps : List Int} {i : Nat} (h1 : ∀ g, g < i → joinsB xs ad ps i g = false) : parV xs ad ps i = i := by
  unfold parV
  have : (List.range i).find? (fun f => joinsB xs ad ps i f) = none := by
    rw [List.find?_eq_none]
    intro g hg
    rw [h1 g (by simpa using hg)]
    simp
  rw [this]; rfl
theorem parV_cases (xs : List (Int × Int × Int)) (ad ps : List Int) (i : Nat) : (∃ f, f < i ∧ joinsB xs ad ps i f = true ∧ (∀ g, g < f → joinsB xs ad ps i g = false) ∧ parV xs ad ps i = f) ∨ ((∀ g, g < i → joinsB xs ad ps i g = false) ∧ parV xs ad ps i = i) := by
  by_cases h : ∃ f, f < i ∧ joinsB xs ad ps i f = true
  · have hex : ∀ n, n ≤ i → (∃ f, f < n ∧ joinsB xs ad ps i f = true) → ∃ f, f < i ∧ joinsB xs ad ps i f = true ∧ ∀ g, g < f → joinsB xs ad ps i g = false := by
      intro n
      induction n with
      | zero => rintro _ ⟨f, hf, _⟩; omega
      | succ n ih =>
        rintro hn ⟨f, hf, hj⟩
        by_cases h2 : ∃ f, f < n ∧ joinsB xs ad ps i f = true
        · exact ih (by omega) h2
        · refine ⟨f, by omega, hj, fun g hg => ?_⟩
          cases h3 : joinsB xs ad ps i g
          · rfl
          · exact absurd ⟨g, by omega, h3⟩ h2
    obtain ⟨f, hf, hj, hg⟩ := hex i (Nat.le_refl _) h
    exact .inl ⟨f, hf, hj, hg, parV_is hf hj hg⟩
  · have hno : ∀ g, g < i → joinsB xs ad ps i g = false := fun g hg => by
      cases h3 : joinsB xs ad ps i g
      · rfl
      · exact absurd ⟨g, hg, h3⟩ h
    exact .inr ⟨hno, parV_self hno⟩
theorem fromK_more (ad ps : List Int) (f q : Int) : ∀ n, n ≤ ps.length → fromK ad (ps ++ [q]) f n = fromK ad ps f n
  | 0, _ => rfl
  | n + 1, h => by
    rw [fromK, fromK, fromK_more ad ps f q n (by omega)]
    have e : (ps ++ [q]).getD n 0 = ps.getD n 0 := by simp [List.getD, List.getElem?_append, show n < ps.length by omega]
    rw [e]
theorem fromV_more (ad ps : List Int) (f q : Int) : fromV ad (ps ++ [q]) f = if q = f then fromV ad ps f ++ [ad.getD ps.length 0] else fromV ad ps f := by
  unfold fromV
  rw [List.length_append, List.length_singleton, fromK, fromK_more ad ps f q _ (Nat.le_refl _)]
  have e : (ps ++ [q]).getD ps.length 0 = q := by simp [List.getD]
  rw [e]
theorem fromK_none {ad ps : List Int} {f : Int} : ∀ {n}, (∀ j, j < n → ¬ ps.getD j 0 = f) → fromK ad ps f n = []
  | 0, _ => rfl
  | n + 1, h => by
    rw [fromK, if_neg (h n (by omega)), fromK_none (fun j hj => h j (by omega))]
theorem parsK_le (xs : List (Int × Int × Int)) (ad : List Int) : ∀ n j, j < n → (parsK xs ad n).getD j 0 ≤ (j : Int)
  | 0, j, h => absurd h (Nat.not_lt_zero _)
  | n + 1, j, h => by
    rw [parsK]
    have hl := parsK_len xs ad n
    by_cases hj : j < n
    · have e : (parsK xs ad n ++ [((parV xs ad (parsK xs ad n) n : Nat) : Int)]).getD j 0 = (parsK xs ad n).getD j 0 := by simp [List.getD, List.getElem?_append, show j < (parsK xs ad n).length by omega]
      rw [e]
      exact parsK_le xs ad n j hj
    · obtain rfl : j = n := by omega
      have e : (parsK xs ad j ++ [((parV xs ad (parsK xs ad j) j : Nat) : Int)]).getD j 0 = ((parV xs ad (parsK xs ad j) j : Nat) : Int) := by simp [List.getD, hl]
      rw [e]
      rcases parV_cases xs ad (parsK xs ad j) j with ⟨f, hf, _, _, e⟩ | ⟨_, e⟩
      · rw [e]; omega
      · rw [e]; omega
/-- Groups as a list with empty ones, one for each address. -/
def rootsK (ad ps : List Int) (n : Nat) : List (List Int) := (List.range n).map (fun f => fromV ad ps ((f : Nat) : Int))
def keepG (gs : List (List Int)) : List (List Int) := gs.filter (fun g => decide (0 < g.length))
theorem rootsK_len (ad ps : List Int) (n : Nat) : (rootsK ad ps n).length = n := by simp [rootsK]
theorem rootsK_next (ad ps : List Int) (n : Nat) : rootsK ad ps (n + 1) = rootsK ad ps n ++ [fromV ad ps ((n : Nat) : Int)] := by simp [rootsK, List.range_succ]
theorem place_cons_yes {xs : List (Int × Int × Int)} {g : List Int} {r : List (List Int)} {x : Int} (h : mayB xs (g ++ [x]) = true) : place xs (g :: r) x = (g ++ [x]) :: r := by
  have := place_join (xs := xs) (gs := g :: r) (x := x) (k := 0) (by simp) (fun j hj => absurd hj (Nat.not_lt_zero _)) (by simpa [row] using h)
  rw [this]; simp [row]
theorem place_cons_no {xs : List (Int × Int × Int)} {g : List Int} {r : List (List Int)} {x : Int} (h : mayB xs (g ++ [x]) = false) : place xs (g :: r) x = g :: place xs r x := by
  have e : joinAt xs x (g :: r) = joinAt xs x r + 1 := by rw [joinAt, if_neg (by rw [h]; simp)]
  unfold place
  rw [e]
  by_cases hk : joinAt xs x r < r.length
  · rw [if_pos hk, if_pos (by simpa using hk)]
    simp [row]
  · rw [if_neg hk, if_neg (by simpa using hk)]
    rfl
/-- What joining does to the list with empty ones. -/
theorem keep_join {xs : List (Int × Int × Int)} {x : Int} : ∀ {L : List (List Int)} {f : Nat}, f < L.length → (0 < (row L f).length ∧ mayB xs (row L f ++ [x]) = true) → (∀ g, g < f → ¬ (0 < (row L g).length ∧ mayB xs (row L g ++ [x]) = true)) → keepG (L.set f (row L f ++ [x])) = place xs (keepG L) x
  | [], f, h, _, _ => absurd h (Nat.not_lt_zero _)
  | g :: r, 0, _, h, _ => by
    simp only [row, List.getD_cons_zero] at h
    have h2 : mayB xs (g ++ [x]) = true := h.2
    simp only [row, List.getD_cons_zero, List.set_cons_zero, keepG]
    rw [List.filter_cons_of_pos (by simp), List.filter_cons_of_pos (by simpa using h.1), place_cons_yes h2]
  | g :: r, f + 1, hf, h, h1 => by
    have ih := keep_join (xs := xs) (x := x) (L := r) (f := f) (by simpa using hf) (by simpa [row] using h) (fun k hk => by simpa [row] using h1 (k + 1) (by omega))
    have h0 : ¬ (0 < g.length ∧ mayB xs (g ++ [x]) = true) := by simpa [row] using h1 0 (by omega)
    have er : row (g :: r) (f + 1) = row r f := by simp [row]
    rw [er, List.set_cons_succ]
    unfold keepG at ih ⊢
    by_cases hg : 0 < g.length
    · have hm : mayB xs (g ++ [x]) = false := by
        cases h3 : mayB xs (g ++ [x])
        · rfl
        · exact absurd ⟨hg, h3⟩ h0
      rw [List.filter_cons_of_pos (by simpa using hg), List.filter_cons_of_pos (by simpa using hg), place_cons_no hm, ih]
    · rw [List.filter_cons_of_neg (by simpa using hg), List.filter_cons_of_neg (by simpa using hg), ih]
theorem keep_new {xs : List (Int × Int × Int)} {x : Int} : ∀ {L : List (List Int)}, (∀ g, g < L.length → ¬ (0 < (row L g).length ∧ mayB xs (row L g ++ [x]) = true)) → keepG L ++ [[x]] = place xs (keepG L) x
  | [], _ => by
    have := place_new (xs := xs) (gs := []) (x := x) (fun j hj => absurd hj (Nat.not_lt_zero _))
    simpa [keepG] using this.symm
  | g :: r, h => by
    have ih := keep_new (xs := xs) (x := x) (L := r) (fun k hk => by simpa [row] using h (k + 1) (by simpa using hk))
    have h0 : ¬ (0 < g.length ∧ mayB xs (g ++ [x]) = true) := by simpa [row] using h 0 (by simp)
    unfold keepG at ih ⊢
    by_cases hg : 0 < g.length
    · have hm : mayB xs (g ++ [x]) = false := by
        cases h3 : mayB xs (g ++ [x])
        · rfl
        · exact absurd ⟨hg, h3⟩ h0
      rw [List.filter_cons_of_pos (by simpa using hg), place_cons_no hm, ← ih, List.cons_append]
    · rw [List.filter_cons_of_neg (by simpa using hg), ih]
theorem rootsK_row {ad ps : List Int} {n f : Nat} (h : f < n) : row (rootsK ad ps n) f = fromV ad ps ((f : Nat) : Int) := by simp [row, rootsK, List.getD, h]
theorem keep_grp (xs : List (Int × Int × Int)) (ad : List Int) : ∀ n, n ≤ ad.length → keepG (rootsK ad (parsK xs ad n) n) = grpK xs (ad.take n)
  | 0, _ => rfl
  | n + 1, hn => by
    have ih := keep_grp xs ad n (by omega)
    rw [grpK_next (by omega), ← ih]
    obtain ⟨ps, hps⟩ : ∃ ps, ps = parsK xs ad n := ⟨_, rfl⟩
    have hl : ps.length = n := by rw [hps]; exact parsK_len xs ad n
    have hle : ∀ j, j < n → ps.getD j 0 ≤ (j : Int) := fun j hj => by rw [hps]; exact parsK_le xs ad n j hj
    rw [parsK, ← hps]
    have hend : fromV ad ps ((n : Nat) : Int) = [] := by
      unfold fromV
      exact fromK_none (fun j hj => by have := hle j (by omega); omega)
    rcases parV_cases xs ad ps n with ⟨f, hf, hj, hg, e⟩ | ⟨hg, e⟩
    · rw [e]
      have hL : rootsK ad (ps ++ [((f : Nat) : Int)]) (n + 1) = (rootsK ad ps n).set f (row (rootsK ad ps n) f ++ [ad.getD n 0]) ++ [[]] := by
        rw [rootsK_next, fromV_more, if_neg (by omega), hend]
        congr 1
        apply List.ext_getElem (by simp [rootsK])
        intro k h1 h2
        have hk : k < n := by simpa [rootsK] using h1
        simp only [rootsK_row hf]
        simp only [rootsK, List.getElem_map, List.getElem_range, List.getElem_set, fromV_more, hl]
        by_cases hkf : f = k
        · subst hkf; simp
        · rw [if_neg (by omega), if_neg hkf]
      rw [hL]
      have hkj := keep_join (xs := xs) (x := ad.getD n 0) (L := rootsK ad ps n) (f := f) (by rw [rootsK_len]; exact hf)
        (by rw [rootsK_row hf]; unfold joinsB at hj; simpa [Bool.and_eq_true] using hj)
        (fun g hgf hc => by
          rw [rootsK_row (by omega)] at hc
          have := hg g hgf
          unfold joinsB at this
          rw [decide_eq_true hc.1, hc.2] at this
          cases this)
      rw [← hkj]
      unfold keepG
      rw [List.filter_append]
      simp
    · rw [e]
      have hL : rootsK ad (ps ++ [((n : Nat) : Int)]) (n + 1) = rootsK ad ps n ++ [[ad.getD n 0]] := by
        rw [rootsK_next, fromV_more, if_pos rfl, hend, hl, List.nil_append]
        congr 1
        apply List.ext_getElem (by simp [rootsK])
        intro k h1 h2
        have hk : k < n := by simpa [rootsK] using h1
        simp only [rootsK, List.getElem_map, List.getElem_range, fromV_more]
        rw [if_neg (by omega)]
      rw [hL]
      have hkn := keep_new (xs := xs) (x := ad.getD n 0) (L := rootsK ad ps n)
        (fun g hgl hc => by
          rw [rootsK_len] at hgl
          rw [rootsK_row hgl] at hc
          have := hg g hgl
          unfold joinsB at this
          rw [decide_eq_true hc.1, hc.2] at this
          cases this)
      rw [← hkn]
      unfold keepG
      rw [List.filter_append]
      simp
theorem fromK_len (ad ps : List Int) (f : Int) : ∀ n, (fromK ad ps f n).length ≤ n
  | 0 => Nat.le_refl _
  | n + 1 => by
    have := fromK_len ad ps f n
    rw [fromK]
    split
    · rw [List.length_append, List.length_singleton]; omega
    · omega
theorem fromK_mem (ad ps : List Int) (f : Int) : ∀ n, n ≤ ad.length → ∀ x, x ∈ fromK ad ps f n → x ∈ ad
  | 0, _, x, h => by cases h
  | n + 1, hn, x, h => by
    rw [fromK] at h
    split at h
    · rcases List.mem_append.1 h with h | h
      · exact fromK_mem ad ps f n (by omega) x h
      · rw [List.mem_singleton.1 h]; exact getD_mem (by omega)
    · exact fromK_mem ad ps f n (by omega) x h
end Go.Proofs.Ytgninjdnfidpcaa
