/- Networks in plain words: links, paths, shortest routes. No run is spoken of. -/
namespace Go.Proofs.Ytbjjgcfmdlinaaa
/-- The other end of a link. -/
def other (l : Int × Int) (v : Int) : Option Int := if v = l.1 then some l.2 else if v = l.2 then some l.1 else none
/-- Where a link with this index leads. -/
def stepN (ls : List (Int × Int)) (i v : Int) : Option Int := if 0 ≤ i ∧ i < (ls.length : Int) then other (ls.getD i.toNat (0, 0)) v else none
/-- Where a path leads. -/
def endO (ls : List (Int × Int)) : List Int → Int → Option Int
  | [], v => some v
  | i :: p, v => (stepN ls i v).bind (endO ls p)
theorem endO_append (ls : List (Int × Int)) : ∀ (p q : List Int) (v : Int), endO ls (p ++ q) v = (endO ls p v).bind (endO ls q)
  | [], q, v => rfl
  | i :: p, q, v => by
    simp only [List.cons_append, endO]
    cases stepN ls i v with
    | none => rfl
    | some w => exact endO_append ls p q w
theorem endO_one (ls : List (Int × Int)) (i v : Int) : endO ls [i] v = stepN ls i v := by
  simp only [endO]
  cases stepN ls i v <;> rfl
theorem other_back {l : Int × Int} {v w : Int} (h : other l v = some w) : other l w = some v := by
  unfold other at h ⊢
  split at h
  · rename_i hv
    cases h
    split
    · rename_i h2; rw [hv, ← h2]
    · simp [hv]
  · split at h
    · rename_i h1 h2
      cases h
      rw [if_pos rfl, h2]
    · cases h
theorem step_back {ls : List (Int × Int)} {i v w : Int} (h : stepN ls i v = some w) : stepN ls i w = some v := by
  unfold stepN at h ⊢
  split at h
  · rename_i hi; rw [if_pos hi]; exact other_back h
  · cases h
theorem step_bound {ls : List (Int × Int)} {i v w : Int} (h : stepN ls i v = some w) : 0 ≤ i ∧ i < (ls.length : Int) := by
  unfold stepN at h
  split at h
  · assumption
  · cases h
theorem endO_back {ls : List (Int × Int)} : ∀ {p : List Int} {v w : Int}, endO ls p v = some w → endO ls p.reverse w = some v
  | [], v, w, h => by cases h; rfl
  | i :: p, v, w, h => by
    simp only [endO] at h
    cases hs : stepN ls i v with
    | none => rw [hs] at h; cases h
    | some u =>
      rw [hs] at h
      have ih := endO_back (p := p) h
      rw [List.reverse_cons, endO_append, ih]
      exact (endO_one _ _ _).trans (step_back hs)
theorem endO_bound {ls : List (Int × Int)} : ∀ {p : List Int} {v w : Int}, endO ls p v = some w → ∀ i ∈ p, 0 ≤ i ∧ i < (ls.length : Int)
  | [], v, w, h, i, hi => by cases hi
  | j :: p, v, w, h, i, hi => by
    simp only [endO] at h
    cases hs : stepN ls j v with
    | none => rw [hs] at h; cases h
    | some u =>
      rw [hs] at h
      rcases List.mem_cons.1 hi with rfl | hi
      · exact step_bound hs
      · exact endO_bound h i hi
/-! Shorter, or of one length and less at the first place where they differ. -/
def lexLt : List Int → List Int → Prop
  | x :: p, y :: q => x < y ∨ (x = y ∧ lexLt p q)
  | _, _ => False
def SLt (p q : List Int) : Prop := p.length < q.length ∨ (p.length = q.length ∧ lexLt p q)
def SLe (p q : List Int) : Prop := p = q ∨ SLt p q
theorem lex_irrefl : ∀ p : List Int, ¬ lexLt p p
  | [], h => h
  | x :: p, h => by
    rcases h with h | ⟨_, h⟩
    · omega
    · exact lex_irrefl p h
theorem lex_trans : ∀ {p q r : List Int}, lexLt p q → lexLt q r → lexLt p r
  | x :: p, y :: q, z :: r, h, g => by
    rcases h with h | ⟨rfl, h⟩
    · rcases g with g | ⟨rfl, _⟩
      · exact .inl (by omega)
      · exact .inl h
    · rcases g with g | ⟨rfl, g⟩
      · exact .inl g
      · exact .inr ⟨rfl, lex_trans h g⟩
  | [], _, _, h, _ => h.elim
  | _ :: _, [], _, h, _ => h.elim
  | _ :: _, _ :: _, [], _, g => g.elim
theorem lex_total : ∀ {p q : List Int}, p.length = q.length → lexLt p q ∨ p = q ∨ lexLt q p
  | [], [], _ => .inr (.inl rfl)
  | x :: p, y :: q, h => by
    have hl : p.length = q.length := by simpa using h
    rcases Int.lt_trichotomy x y with g | rfl | g
    · exact .inl (.inl g)
    · rcases lex_total hl with g | rfl | g
      · exact .inl (.inr ⟨rfl, g⟩)
      · exact .inr (.inl rfl)
      · exact .inr (.inr (.inr ⟨rfl, g⟩))
    · exact .inr (.inr (.inl g))
  | [], _ :: _, h => by simp at h
  | _ :: _, [], h => by simp at h
theorem lex_len : ∀ {p q : List Int} (i j : Int), lexLt p q → p.length = q.length → lexLt (p ++ [i]) (q ++ [j])
  | x :: p, y :: q, i, j, h, hl => by
    rcases h with h | ⟨rfl, h⟩
    · exact .inl h
    · exact .inr ⟨rfl, lex_len i j h (by simpa using hl)⟩
  | [], _, _, _, h, _ => h.elim
  | _ :: _, [], _, _, h, _ => h.elim
theorem lex_last : ∀ (p : List Int) {i j : Int}, i < j → lexLt (p ++ [i]) (p ++ [j])
  | [], _, _, h => .inl h
  | _ :: p, _, _, h => .inr ⟨rfl, lex_last p h⟩
theorem slt_trans {p q r : List Int} (h : SLt p q) (g : SLt q r) : SLt p r := by
  rcases h with h | ⟨h1, h2⟩
  · rcases g with g | ⟨g1, _⟩
    · exact .inl (by omega)
    · exact .inl (by omega)
  · rcases g with g | ⟨g1, g2⟩
    · exact .inl (by omega)
    · exact .inr ⟨by omega, lex_trans h2 g2⟩
theorem slt_irrefl {p : List Int} (h : SLt p p) : False := by
  rcases h with h | ⟨_, h⟩
  · omega
  · exact lex_irrefl _ h
theorem slt_total (p q : List Int) : SLt p q ∨ p = q ∨ SLt q p := by
  rcases Nat.lt_trichotomy p.length q.length with h | h | h
  · exact .inl (.inl h)
  · rcases lex_total h with g | g | g
    · exact .inl (.inr ⟨h, g⟩)
    · exact .inr (.inl g)
    · exact .inr (.inr (.inr ⟨h.symm, g⟩))
  · exact .inr (.inr (.inl h))
theorem slt_snoc {p q : List Int} (i j : Int) (h : SLt p q) : SLt (p ++ [i]) (q ++ [j]) := by
  rcases h with h | ⟨h1, h2⟩
  · exact .inl (by simpa using h)
  · exact .inr ⟨by simpa using h1, lex_len i j h2 h1⟩
theorem slt_last (p : List Int) {i j : Int} (h : i < j) : SLt (p ++ [i]) (p ++ [j]) := .inr ⟨by simp, lex_last p h⟩
theorem slt_nil (p : List Int) (i : Int) : SLt [] (p ++ [i]) := .inl (by simp)
theorem sle_trans {p q r : List Int} (h : SLe p q) (g : SLe q r) : SLe p r := by
  rcases h with rfl | h
  · exact g
  · rcases g with rfl | g
    · exact .inr h
    · exact .inr (slt_trans h g)
theorem sle_snoc {p q : List Int} (i : Int) (h : SLe p q) : SLe (p ++ [i]) (q ++ [i]) := by
  rcases h with rfl | h
  · exact .inl rfl
  · exact .inr (slt_snoc i i h)
theorem sle_len {p q : List Int} (h : SLe p q) : p.length ≤ q.length := by
  rcases h with rfl | h | ⟨h, _⟩ <;> omega
theorem sle_anti {p q : List Int} (h : SLe p q) (g : SLe q p) : p = q := by
  rcases h with rfl | h
  · rfl
  · rcases g with rfl | g
    · rfl
    · exact (slt_irrefl (slt_trans h g)).elim
/-! The best path: the fewest links, and of those the lesser first differing index. -/
def Best (ls : List (Int × Int)) (a b : Int) (p : List Int) : Prop := endO ls p a = some b ∧ ∀ q, endO ls q a = some b → SLe p q
theorem best_unique {ls : List (Int × Int)} {a b : Int} {p q : List Int} (h : Best ls a b p) (g : Best ls a b q) : p = q := sle_anti (h.2 _ g.1) (g.2 _ h.1)
theorem best_nil (ls : List (Int × Int)) (a : Int) : Best ls a a [] := ⟨rfl, fun q _ => by
  cases q with
  | nil => exact .inl rfl
  | cons i q => exact .inr (.inl (by simp))⟩
/-! How many numbers below n there are. -/
theorem nodup_bound : ∀ (n : Nat) (l : List Int), l.Nodup → (∀ x ∈ l, 0 ≤ x ∧ x < (n : Int)) → l.length ≤ n
  | 0, l, _, h => by
    cases l with
    | nil => exact Nat.le_refl _
    | cons x l => have := h x (by simp); omega
  | n + 1, l, hd, h => by
    have h1 := nodup_bound n (l.erase (n : Int)) (hd.erase _) (fun x hx => by
      have h2 := h x (List.mem_of_mem_erase hx)
      have h3 : x ≠ (n : Int) := fun e => by subst e; exact (hd.not_mem_erase) hx
      omega)
    by_cases hm : (n : Int) ∈ l
    · rw [List.length_erase_of_mem hm] at h1
      omega
    · rw [List.erase_of_not_mem hm] at h1
      omega
end Go.Proofs.Ytbjjgcfmdlinaaa
/- The search in breadth, in plain words. -/
namespace Go.Proofs.Ytbjjgcfmdlinaaa
/-- All ends of the links are numbers below n, and a link has two ends. -/
def Ends (n : Nat) (ls : List (Int × Int)) : Prop := ∀ l ∈ ls, 0 ≤ l.1 ∧ l.1 < (n : Int) ∧ 0 ≤ l.2 ∧ l.2 < (n : Int) ∧ l.1 ≠ l.2
theorem step_ends {n : Nat} {ls : List (Int × Int)} (h : Ends n ls) {i v w : Int} (hs : stepN ls i v = some w) : 0 ≤ w ∧ w < (n : Int) ∧ w ≠ v := by
  unfold stepN at hs
  split at hs
  · rename_i hi
    have hm : ls.getD i.toNat (0, 0) ∈ ls := by
      have : i.toNat < ls.length := by omega
      simp [List.getD, this]
    obtain ⟨h1, h2, h3, h4, h5⟩ := h _ hm
    unfold other at hs
    split at hs
    · cases hs; rename_i e; exact ⟨h3, h4, fun e2 => h5 (by rw [← e, e2])⟩
    · split at hs
      · cases hs; rename_i e; exact ⟨h1, h2, fun e2 => h5 (by rw [← e, e2])⟩
      · cases hs
  · cases hs
/-- The links tried so far: all of the first j nodes, and the first k of the j-th. -/
def Tried (j k c i : Nat) : Prop := c < j ∨ (c = j ∧ i < k)
/-- The nodes met, in their order, with their routes; all links of the first j of them tried, and k links of the next. -/
structure Met (n : Nat) (ls : List (Int × Int)) (a : Int) (M : List (Int × List Int)) (j k : Nat) : Prop where
  first : M[0]? = some (a, [])
  nodes : (M.map (·.1)).Nodup
  range : ∀ m ∈ M, 0 ≤ m.1 ∧ m.1 < (n : Int)
  reach : ∀ m ∈ M, endO ls m.2 a = some m.1
  sorted : ∀ (i j' : Nat) (x y : Int × List Int), i < j' → M[i]? = some x → M[j']? = some y → SLt x.2 y.2
  form : ∀ m ∈ M, m.2 = [] ∨ ∃ (c i : Nat) (x : Int × List Int), Tried j k c i ∧ M[c]? = some x ∧ m.2 = x.2 ++ [(i : Int)]
  closed : ∀ (c i : Nat) (x : Int × List Int) (w : Int), Tried j k c i → M[c]? = some x → stepN ls (i : Int) x.1 = some w → ∃ m ∈ M, m.1 = w ∧ SLe m.2 (x.2 ++ [(i : Int)])
variable {n : Nat} {ls : List (Int × Int)} {a : Int} {M : List (Int × List Int)} {j k : Nat}
theorem met_start (ha : 0 ≤ a ∧ a < (n : Int)) : Met n ls a [(a, [])] 0 0 := by
  refine ⟨rfl, by simp, ?_, ?_, ?_, ?_, ?_⟩
  · intro m hm; obtain rfl := List.mem_singleton.1 hm; exact ha
  · intro m hm; obtain rfl := List.mem_singleton.1 hm; rfl
  · intro i j' x y hij hx hy
    have := (List.getElem?_eq_some_iff.1 hy).1
    simp at this; omega
  · intro m hm; obtain rfl := List.mem_singleton.1 hm; exact .inl rfl
  · rintro c i x w (h | ⟨_, h⟩) <;> omega
theorem Met.count (h : Met n ls a M j k) : M.length ≤ n := by
  have := nodup_bound n (M.map (·.1)) h.nodes (fun x hx => by
    obtain ⟨m, hm, rfl⟩ := List.mem_map.1 hx
    exact h.range m hm)
  simpa using this
/-- Every route so far stands before the next one. -/
theorem Met.before (h : Met n ls a M j k) {x : Int × List Int} (hx : M[j]? = some x) : ∀ m ∈ M, SLt m.2 (x.2 ++ [(k : Int)]) := by
  intro m hm
  rcases h.form m hm with e | ⟨c, i, y, ht, hy, e⟩
  · rw [e]; exact slt_nil _ _
  · rw [e]
    rcases ht with hc | ⟨rfl, hi⟩
    · exact slt_snoc _ _ (h.sorted c j y x hc hy hx)
    · rw [hy] at hx
      cases hx
      exact slt_last _ (by omega)
theorem Tried.next {j k c i : Nat} (h : Tried j k c i) : Tried j (k + 1) c i := by
  rcases h with h | ⟨h1, h2⟩
  · exact .inl h
  · exact .inr ⟨h1, by omega⟩
theorem tried_last {j k c i : Nat} (h : Tried j (k + 1) c i) : Tried j k c i ∨ (c = j ∧ i = k) := by
  rcases h with h | ⟨h1, h2⟩
  · exact .inl (.inl h)
  · by_cases e : i = k
    · exact .inr ⟨h1, e⟩
    · exact .inl (.inr ⟨h1, by omega⟩)
/-- A link that leads nowhere new. -/
theorem Met.skip (h : Met n ls a M j k) {x : Int × List Int} (hx : M[j]? = some x) (hs : ∀ w, stepN ls (k : Int) x.1 = some w → ∃ m ∈ M, m.1 = w) : Met n ls a M j (k + 1) := by
  refine ⟨h.first, h.nodes, h.range, h.reach, h.sorted, ?_, ?_⟩
  · intro m hm
    rcases h.form m hm with e | ⟨c, i, y, ht, hy, e⟩
    · exact .inl e
    · exact .inr ⟨c, i, y, ht.next, hy, e⟩
  · intro c i y w ht hy hw
    rcases tried_last ht with ht | ⟨rfl, rfl⟩
    · exact h.closed c i y w ht hy hw
    · rw [hx] at hy
      cases hy
      obtain ⟨m, hm, e⟩ := hs w hw
      exact ⟨m, hm, e, .inr (h.before hx m hm)⟩
/-- A link to a new node. -/
theorem Met.add (h : Met n ls a M j k) (he : Ends n ls) {x : Int × List Int} (hx : M[j]? = some x) {w : Int} (hs : stepN ls (k : Int) x.1 = some w) (hnew : ∀ m ∈ M, m.1 ≠ w) : Met n ls a (M ++ [(w, x.2 ++ [(k : Int)])]) j (k + 1) := by
  have hlt := (List.getElem?_eq_some_iff.1 hx).1
  have old : ∀ (c : Nat) (y : Int × List Int), M[c]? = some y → (M ++ [(w, x.2 ++ [(k : Int)])])[c]? = some y := fun c y hy => by
    rw [List.getElem?_append_left (List.getElem?_eq_some_iff.1 hy).1]; exact hy
  have oldB : ∀ (c : Nat) (y : Int × List Int), c < M.length → (M ++ [(w, x.2 ++ [(k : Int)])])[c]? = some y → M[c]? = some y := fun c y hc hy => by
    rw [List.getElem?_append_left hc] at hy; exact hy
  have newB : ∀ (c : Nat) (y : Int × List Int), ¬ c < M.length → (M ++ [(w, x.2 ++ [(k : Int)])])[c]? = some y → y = (w, x.2 ++ [(k : Int)]) := fun c y hc hy => by
    rw [List.getElem?_append_right (by omega)] at hy
    have := (List.getElem?_eq_some_iff.1 hy).1
    simp at this
    have e : c - M.length = 0 := by omega
    rw [e] at hy
    simpa using hy.symm
  have hw := step_ends he hs
  refine ⟨old _ _ h.first, ?_, ?_, ?_, ?_, ?_, ?_⟩
  · rw [List.map_append, List.nodup_append]
    refine ⟨h.nodes, by simp, ?_⟩
    intro u hu v hv
    obtain ⟨m, hm, rfl⟩ := List.mem_map.1 hu
    simp at hv
    subst hv
    exact hnew m hm
  · intro m hm
    rcases List.mem_append.1 hm with hm | hm
    · exact h.range m hm
    · obtain rfl := List.mem_singleton.1 hm; exact ⟨hw.1, hw.2.1⟩
  · intro m hm
    rcases List.mem_append.1 hm with hm | hm
    · exact h.reach m hm
    · obtain rfl := List.mem_singleton.1 hm
      simp only
      rw [endO_append, h.reach x (List.mem_of_getElem? hx)]
      exact (endO_one _ _ _).trans hs
  · intro i j' y z hij hy hz
    by_cases h2 : j' < M.length
    · exact h.sorted i j' y z hij (oldB i y (by omega) hy) (oldB j' z h2 hz)
    · obtain rfl := newB j' z h2 hz
      have hj' : j' < M.length + 1 := by have := (List.getElem?_eq_some_iff.1 hz).1; simpa using this
      exact h.before hx y (List.mem_of_getElem? (oldB i y (by omega) hy))
  · intro m hm
    rcases List.mem_append.1 hm with hm | hm
    · rcases h.form m hm with e | ⟨c, i, y, ht, hy, e⟩
      · exact .inl e
      · exact .inr ⟨c, i, y, ht.next, old c y hy, e⟩
    · obtain rfl := List.mem_singleton.1 hm
      exact .inr ⟨j, k, x, .inr ⟨rfl, Nat.lt_succ_self _⟩, old j x hx, rfl⟩
  · intro c i y u ht hy hu
    have hc : c < M.length := by rcases ht with h1 | ⟨h1, _⟩ <;> omega
    have hy' := oldB c y hc hy
    rcases tried_last ht with ht | ⟨rfl, rfl⟩
    · obtain ⟨m, hm, e1, e2⟩ := h.closed c i y u ht hy' hu
      exact ⟨m, List.mem_append_left _ hm, e1, e2⟩
    · rw [hx] at hy'
      cases hy'
      rw [hs] at hu
      cases hu
      exact ⟨_, List.mem_append_right _ (List.mem_singleton.2 rfl), rfl, .inl rfl⟩
/-- All links of a node are tried. -/
theorem Met.over (h : Met n ls a M j ls.length) : Met n ls a M (j + 1) 0 := by
  refine ⟨h.first, h.nodes, h.range, h.reach, h.sorted, ?_, ?_⟩
  · intro m hm
    rcases h.form m hm with e | ⟨c, i, y, ht, hy, e⟩
    · exact .inl e
    · exact .inr ⟨c, i, y, .inl (by rcases ht with h1 | ⟨h1, _⟩ <;> omega), hy, e⟩
  · intro c i y w ht hy hw
    have hb := step_bound hw
    refine h.closed c i y w ?_ hy hw
    rcases ht with h1 | ⟨_, h1⟩
    · by_cases e : c = j
      · exact .inr ⟨e, by omega⟩
      · exact .inl (by omega)
    · omega
theorem snoc_cases : ∀ q : List Int, q = [] ∨ ∃ p i, q = p ++ [i]
  | [] => .inl rfl
  | x :: q => by
    rcases snoc_cases q with rfl | ⟨p, i, rfl⟩
    · exact .inr ⟨[], x, rfl⟩
    · exact .inr ⟨x :: p, i, rfl⟩
/-- Nothing waits: every path is met by a route that is not worse. -/
theorem Met.all (h : Met n ls a M M.length 0) : ∀ (len : Nat) (q : List Int) (w : Int), q.length = len → endO ls q a = some w → ∃ m ∈ M, m.1 = w ∧ SLe m.2 q
  | 0, q, w, hl, hq => by
    obtain rfl := List.eq_nil_of_length_eq_zero hl
    cases hq
    exact ⟨_, List.mem_of_getElem? h.first, rfl, .inl rfl⟩
  | len + 1, q, w, hl, hq => by
    rcases snoc_cases q with rfl | ⟨p, i, rfl⟩
    · simp at hl
    · rw [endO_append] at hq
      cases hp : endO ls p a with
      | none => rw [hp] at hq; cases hq
      | some u =>
        rw [hp] at hq
        have hstep : stepN ls i u = some w := (endO_one _ _ _).symm.trans hq
        obtain ⟨m, hm, rfl, hle⟩ := h.all len p u (by simpa using hl) hp
        obtain ⟨c, hc, rfl⟩ := List.getElem_of_mem hm
        have hi := step_bound hstep
        obtain ⟨k, rfl⟩ : ∃ k : Nat, i = k := ⟨i.toNat, by omega⟩
        obtain ⟨m', hm', e1, e2⟩ := h.closed c k M[c] w (.inl hc) (List.getElem?_eq_getElem hc) hstep
        exact ⟨m', hm', e1, sle_trans e2 (sle_snoc _ hle)⟩
theorem Met.best (h : Met n ls a M M.length 0) {m : Int × List Int} (hm : m ∈ M) : Best ls a m.1 m.2 := by
  refine ⟨h.reach m hm, fun q hq => ?_⟩
  obtain ⟨m', hm', e, hle⟩ := h.all _ q m.1 rfl hq
  have : m' = m := by
    obtain ⟨c, hc, rfl⟩ := List.getElem_of_mem hm
    obtain ⟨c', hc', rfl⟩ := List.getElem_of_mem hm'
    have hn := List.pairwise_iff_getElem.1 h.nodes
    rcases Nat.lt_trichotomy c c' with g | g | g
    · have h3 := hn c c' (by simpa using hc) (by simpa using hc') g
      simp only [List.getElem_map] at h3
      exact absurd e.symm h3
    · subst g; rfl
    · have h3 := hn c' c (by simpa using hc') (by simpa using hc) g
      simp only [List.getElem_map] at h3
      exact absurd e h3
  rw [← this]
  exact hle
theorem Met.none (h : Met n ls a M M.length 0) {w : Int} (hw : ∀ m ∈ M, m.1 ≠ w) (q : List Int) : endO ls q a ≠ some w := fun hq => by
  obtain ⟨m, hm, e, _⟩ := h.all _ q w rfl hq
  exact hw m hm e
end Go.Proofs.Ytbjjgcfmdlinaaa
/- Distances to a node, in plain words. -/
namespace Go.Proofs.Ytbjjgcfmdlinaaa
variable {n : Nat} {ls : List (Int × Int)} {b : Int}
theorem endO_cons {ls : List (Int × Int)} {i : Int} {p : List Int} {v w t : Int} (h : stepN ls i v = some w) (g : endO ls p w = some t) : endO ls (i :: p) v = some t := by simp only [endO, h]; exact g
theorem endO_uncons {ls : List (Int × Int)} {i : Int} {p : List Int} {v t : Int} (h : endO ls (i :: p) v = some t) : ∃ w, stepN ls i v = some w ∧ endO ls p w = some t := by
  simp only [endO] at h
  cases hs : stepN ls i v with
  | none => rw [hs] at h; cases h
  | some w => rw [hs] at h; exact ⟨w, rfl, h⟩
theorem endO_ends (he : Ends n ls) : ∀ {p : List Int} {v t : Int}, 0 ≤ v ∧ v < (n : Int) → endO ls p v = some t → 0 ≤ t ∧ t < (n : Int)
  | [], v, t, hv, h => by cases h; exact hv
  | i :: p, v, t, _, h => by
    obtain ⟨w, hs, h2⟩ := endO_uncons h
    have := step_ends he hs
    exact endO_ends he ⟨this.1, this.2.1⟩ h2
/-- A path with at least as many links as there are nodes can be cut. -/
theorem shorten (he : Ends n ls) : ∀ (len : Nat) (p : List Int) (v t : Int), p.length ≤ len → 0 ≤ v ∧ v < (n : Int) → endO ls p v = some t → ∃ q, endO ls q v = some t ∧ q.length < n
  | 0, p, v, t, hl, hv, hp => ⟨p, hp, by omega⟩
  | len + 1, p, v, t, hl, hv, hp => by
    by_cases hn : p.length < n
    · exact ⟨p, hp, hn⟩
    · have pre : ∀ k, ∃ u, endO ls (p.take k) v = some u ∧ endO ls (p.drop k) u = some t := fun k => by
        have h := hp
        rw [← List.take_append_drop k p, endO_append] at h
        cases hk : endO ls (p.take k) v with
        | none => rw [hk] at h; cases h
        | some u => rw [hk] at h; exact ⟨u, rfl, h⟩
      have hnd : ¬ ((List.range (p.length + 1)).map fun k => (endO ls (p.take k) v).getD 0).Nodup := fun hd => by
        have := nodup_bound n _ hd (fun x hx => by
          obtain ⟨k, _, rfl⟩ := List.mem_map.1 hx
          obtain ⟨u, hu, _⟩ := pre k
          rw [hu]
          exact endO_ends he hv hu)
        simp at this
        omega
      have : ∃ k1 k2, k1 < k2 ∧ k2 ≤ p.length ∧ (endO ls (p.take k1) v).getD 0 = (endO ls (p.take k2) v).getD 0 := by
        refine Classical.byContradiction fun hno => hnd ?_
        refine List.pairwise_iff_getElem.2 fun i j hi hj hij => ?_
        simp only [List.length_map, List.length_range] at hi hj
        simp only [List.getElem_map, List.getElem_range]
        exact fun e => hno ⟨i, j, hij, by omega, e⟩
      obtain ⟨k1, k2, h12, h2, e⟩ := this
      obtain ⟨u1, a1, _⟩ := pre k1
      obtain ⟨u2, a2, b2⟩ := pre k2
      rw [a1, a2] at e
      simp only [Option.getD_some] at e
      subst e
      refine shorten he len (p.take k1 ++ p.drop k2) v t ?_ hv ?_
      · simp; omega
      · rw [endO_append, a1]; exact b2
/-- What d says of v is its distance to b, or less than 0 if there is no way. -/
def DistOk (ls : List (Int × Int)) (b d v : Int) : Prop := (d = -1 ∧ ∀ q, endO ls q v ≠ some b) ∨ (0 ≤ d ∧ (∃ p, endO ls p v = some b ∧ (p.length : Int) = d) ∧ ∀ q, endO ls q v = some b → d ≤ (q.length : Int))
/-- The table of distances in round r, with i links tried. -/
structure Dist (n : Nat) (ls : List (Int × Int)) (b : Int) (d : List Int) (r i : Nat) : Prop where
  len : d.length = n
  true_ : ∀ v : Nat, v < n → d.getD v 0 = -1 ∨ (0 ≤ d.getD v 0 ∧ d.getD v 0 ≤ (r : Int) + 1 ∧ ∃ p, endO ls p v = some b ∧ (p.length : Int) = d.getD v 0)
  done : ∀ (v : Nat) (q : List Int), v < n → endO ls q v = some b → q.length ≤ r → 0 ≤ d.getD v 0 ∧ d.getD v 0 ≤ (q.length : Int)
  tried : ∀ (v i' w : Nat), v < n → w < n → i' < i → stepN ls (i' : Int) v = some (w : Int) → d.getD w 0 = (r : Int) → 0 ≤ d.getD v 0
theorem dist_start (b : Nat) (hb : b < n) : Dist n ls b ((List.replicate n (-1)).set b 0) 0 0 := by
  have g0 : ∀ v : Nat, v < n → ((List.replicate n (-1 : Int)).set b 0).getD v 0 = if v = b then 0 else -1 := fun v hv => by
    by_cases e : v = b
    · subst e; simp [List.getD, hv]
    · rw [if_neg e]; simp [List.getD, hv, Ne.symm e]
  refine ⟨by simp, fun v hv => ?_, fun v q hv hq hl => ?_, fun v i' w _ _ hi => by omega⟩
  · rw [g0 v hv]
    split
    · rename_i e; subst e; exact .inr ⟨Int.le_refl _, by simp, [], rfl, rfl⟩
    · exact .inl rfl
  · obtain rfl := List.eq_nil_of_length_eq_zero (Nat.le_zero.1 hl)
    simp only [endO, Option.some.injEq] at hq
    rw [g0 v hv, if_pos (by omega)]
    simp
/-- A link is tried: what it says of one node, and of the other. -/
theorem Dist.keep {d : List Int} {r i : Nat} (h : Dist n ls b d r i) (hs : ∀ v w : Nat, v < n → w < n → stepN ls (i : Int) v = some (w : Int) → d.getD w 0 = (r : Int) → 0 ≤ d.getD v 0) : Dist n ls b d r (i + 1) := by
  refine ⟨h.len, h.true_, h.done, fun v i' w hv hw hi hst hd => ?_⟩
  by_cases e : i' = i
  · subst e; exact hs v w hv hw hst hd
  · exact h.tried v i' w hv hw (by omega) hst hd
theorem getD_set_ne {d : List Int} {x v : Nat} {z : Int} (h : v ≠ x) : (d.set x z).getD v 0 = d.getD v 0 := by
  simp [List.getD, Ne.symm h]
theorem getD_set_eq {d : List Int} {x : Nat} {z : Int} (h : x < d.length) : (d.set x z).getD x 0 = z := by
  simp [List.getD, h]
/-- A node that had none gets its distance. -/
theorem Dist.put {d : List Int} {r i : Nat} (h : Dist n ls b d r i) {x y : Nat} (hx : x < n) (hy : y < n) {i0 : Int} (hst : stepN ls i0 x = some (y : Int)) (hdy : d.getD y 0 = (r : Int)) (hdx : d.getD x 0 < 0) :
    Dist n ls b (d.set x ((r : Int) + 1)) r i := by
  have hxl : x < d.length := by rw [h.len]; exact hx
  refine ⟨by simp [h.len], fun v hv => ?_, fun v q hv hq hl => ?_, fun v i' w hv hw hi hs hd => ?_⟩
  · by_cases e : v = x
    · subst e
      rw [getD_set_eq hxl]
      refine .inr ⟨by omega, Int.le_refl _, ?_⟩
      rcases h.true_ y hy with h1 | ⟨_, _, p, hp, hl⟩
      · omega
      · exact ⟨i0 :: p, endO_cons hst hp, by simp; omega⟩
    · rw [getD_set_ne e]; exact h.true_ v hv
  · by_cases e : v = x
    · subst e
      have := (h.done v q hv hq hl).1
      omega
    · rw [getD_set_ne e]; exact h.done v q hv hq hl
  · by_cases ew : w = x
    · subst ew
      rw [getD_set_eq hxl] at hd
      omega
    · rw [getD_set_ne ew] at hd
      by_cases e : v = x
      · subst e; rw [getD_set_eq hxl]; omega
      · rw [getD_set_ne e]; exact h.tried v i' w hv hw hi hs hd
/-- A round is over. -/
theorem Dist.round {d : List Int} {r : Nat} (he : Ends n ls) (h : Dist n ls b d r ls.length) : Dist n ls b d (r + 1) 0 := by
  refine ⟨h.len, fun v hv => ?_, fun v q hv hq hl => ?_, fun v i' w _ _ hi => by omega⟩
  · rcases h.true_ v hv with h1 | ⟨h1, h2, h3⟩
    · exact .inl h1
    · exact .inr ⟨h1, by omega, h3⟩
  · by_cases hr : q.length ≤ r
    · exact h.done v q hv hq hr
    · cases q with
      | nil => simp at hr
      | cons i q =>
        obtain ⟨w, hs, hq2⟩ := endO_uncons hq
        have hw := step_ends he hs
        have hi := step_bound hs
        obtain ⟨wn, rfl⟩ : ∃ k : Nat, w = k := ⟨w.toNat, by omega⟩
        obtain ⟨k, rfl⟩ : ∃ k : Nat, i = k := ⟨i.toNat, by omega⟩
        have hql : q.length = r := by simp at hl hr; omega
        have hwn : wn < n := by omega
        have hd := h.done wn q hwn hq2 (by omega)
        rcases h.true_ v hv with h1 | ⟨h1, h2, h3⟩
        · by_cases e : d.getD wn 0 = (r : Int)
          · have := h.tried v k wn hv hwn (by omega) hs e; omega
          · rcases h.true_ wn hwn with g | ⟨_, _, p, hp, hpl⟩
            · omega
            · have := h.done v ((k : Int) :: p) hv (endO_cons hs hp) (by simp; omega)
              omega
        · refine ⟨h1, ?_⟩
          simp only [List.length_cons]; omega
/-- All rounds are over. -/
theorem Dist.all {d : List Int} (he : Ends n ls) (h : Dist n ls b d n 0) : ∀ v : Nat, v < n → DistOk ls b (d.getD v 0) v := by
  intro v hv
  have cut : ∀ q, endO ls q v = some b → 0 ≤ d.getD v 0 ∧ d.getD v 0 ≤ (q.length : Int) := fun q hq => by
    obtain ⟨q', hq', hl⟩ := shorten he q.length q v b (Nat.le_refl _) ⟨by omega, by omega⟩ hq
    have h1 := h.done v q' hv hq' (by omega)
    by_cases g : q.length ≤ n
    · exact h.done v q hv hq g
    · exact ⟨h1.1, by omega⟩
  rcases h.true_ v hv with h1 | ⟨h1, _, p, hp, hl⟩
  · exact .inl ⟨h1, fun q hq => by have := cut q hq; omega⟩
  · exact .inr ⟨h1, ⟨p, hp, hl⟩, fun q hq => (cut q hq).2⟩
/-! The best path follows the distances. -/
theorem dist_nil {v d : Int} (h : DistOk ls b d v) (e : v = b) : d = 0 := by
  rcases h with ⟨_, h⟩ | ⟨h0, _, h⟩
  · exact absurd (by rw [e]; rfl) (h [])
  · have := h [] (by rw [e]; rfl); simp at this; omega
/-- The first link that leads nearer begins the best path. -/
theorem best_cons {D : Int → Int} (hD : ∀ v, 0 ≤ v ∧ v < (n : Int) → DistOk ls b (D v) v) (he : Ends n ls) {v w i : Int} {p : List Int} (hv : 0 ≤ v ∧ v < (n : Int)) (hd : 0 < D v) (hs : stepN ls i v = some w) (hw : D w = D v - 1)
    (hfirst : ∀ (j u : Int), j < i → stepN ls j v = some u → D u ≠ D v - 1) (hp : Best ls w b p) : Best ls v b (i :: p) := by
  have hwn := step_ends he hs
  have hpl : (p.length : Int) = D w := by
    rcases hD w ⟨hwn.1, hwn.2.1⟩ with ⟨h1, _⟩ | ⟨_, ⟨p0, hp0, hl0⟩, h2⟩
    · omega
    · have h1 := h2 p hp.1
      have h3 := sle_len (hp.2 p0 hp0)
      omega
  refine ⟨endO_cons hs hp.1, fun q hq => ?_⟩
  have hqd : D v ≤ (q.length : Int) := by
    rcases hD v hv with ⟨h1, _⟩ | ⟨_, _, h2⟩
    · omega
    · exact h2 q hq
  by_cases hlen : (q.length : Int) = D v
  · cases q with
    | nil => simp at hlen; omega
    | cons j q =>
      obtain ⟨u, hsj, hqu⟩ := endO_uncons hq
      have hun := step_ends he hsj
      have hql : (q.length : Int) = D v - 1 := by simp at hlen; omega
      have hDu : D u = D v - 1 := by
        rcases hD u ⟨hun.1, hun.2.1⟩ with ⟨_, h2⟩ | ⟨_, ⟨p0, hp0, hl0⟩, h2⟩
        · exact absurd hqu (h2 q)
        · have h1 := h2 q hqu
          rcases hD v hv with ⟨h3, _⟩ | ⟨_, _, h4⟩
          · omega
          · have h5 := h4 (j :: p0) (endO_cons hsj hp0)
            simp at h5
            omega
      rcases Int.lt_trichotomy j i with g | rfl | g
      · exact absurd hDu (hfirst j u g hsj)
      · rw [hs] at hsj
        cases hsj
        rcases hp.2 q hqu with e | e | ⟨e1, e2⟩
        · subst e; exact .inl rfl
        · omega
        · exact .inr (.inr ⟨by simp [e1], .inr ⟨rfl, e2⟩⟩)
      · exact .inr (.inr ⟨by simp; omega, .inl g⟩)
  · exact .inr (.inl (by simp; omega))
theorem least_index (P : Int → Prop) : ∀ (m : Nat), (∃ i : Int, 0 ≤ i ∧ i < (m : Int) ∧ P i) → ∃ i : Int, 0 ≤ i ∧ i < (m : Int) ∧ P i ∧ ∀ j, 0 ≤ j → j < i → ¬ P j
  | 0, h => by obtain ⟨i, h1, h2, _⟩ := h; omega
  | m + 1, ⟨i, h1, h2, h3⟩ => by
    by_cases hex : ∃ i : Int, 0 ≤ i ∧ i < (m : Int) ∧ P i
    · obtain ⟨i, g1, g2, g3, g4⟩ := least_index P m hex
      exact ⟨i, g1, by omega, g3, g4⟩
    · exact ⟨i, h1, h2, h3, fun j j1 j2 hj => hex ⟨j, j1, by omega, hj⟩⟩
/-- Where there is a way there is a best one, and the first link that leads nearer begins it. -/
theorem best_exists {D : Int → Int} (hD : ∀ v, 0 ≤ v ∧ v < (n : Int) → DistOk ls b (D v) v) (he : Ends n ls) : ∀ (k : Nat) (v : Int), 0 ≤ v ∧ v < (n : Int) → D v = (k : Int) → ∃ p, Best ls v b p ∧ p.length = k
  | 0, v, hv, hd => by
    rcases hD v hv with ⟨h1, _⟩ | ⟨_, ⟨p, hp, hl⟩, _⟩
    · omega
    · have : p = [] := List.eq_nil_of_length_eq_zero (by omega)
      subst this
      cases hp
      exact ⟨[], best_nil _ _, rfl⟩
  | k + 1, v, hv, hd => by
    have hex : ∃ i : Int, 0 ≤ i ∧ i < (ls.length : Int) ∧ ∃ w, stepN ls i v = some w ∧ D w = D v - 1 := by
      rcases hD v hv with ⟨h1, _⟩ | ⟨_, ⟨p, hp, hl⟩, h2⟩
      · omega
      · cases p with
        | nil => simp at hl; omega
        | cons i p =>
          obtain ⟨w, hs, hpw⟩ := endO_uncons hp
          have hwn := step_ends he hs
          have hb := step_bound hs
          refine ⟨i, hb.1, hb.2, w, hs, ?_⟩
          simp at hl
          rcases hD w ⟨hwn.1, hwn.2.1⟩ with ⟨_, g2⟩ | ⟨_, ⟨p0, hp0, hl0⟩, g2⟩
          · exact absurd hpw (g2 p)
          · have g3 := g2 p hpw
            have g4 := h2 (i :: p0) (endO_cons hs hp0)
            simp at g4
            omega
    obtain ⟨i, h1, h2, ⟨w, hs, hw⟩, hfirst⟩ := least_index _ _ hex
    have hwn := step_ends he hs
    obtain ⟨p, hp, hl⟩ := best_exists hD he k w ⟨hwn.1, hwn.2.1⟩ (by omega)
    refine ⟨i :: p, best_cons hD he hv (by omega) hs hw (fun j u hj hsj e => ?_) hp, by simp [hl]⟩
    exact hfirst j (step_bound hsj).1 hj ⟨u, hsj, e⟩
end Go.Proofs.Ytbjjgcfmdlinaaa
