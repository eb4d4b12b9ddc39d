/- Slices of probes: what is seen of one, and what a call owns. A probe: two integers and a slice of integers. -/
import Derived.Test.YtjckcggjmcaaoaaSlA
import Derived.Test.YtjckcggjmcaaoaaPair
namespace Go.Proofs.Ytjckcggjmcaaoaa
open Go.RowKit
/-- A probe in plain words: from, to, path. -/
abbrev Prb := Int × Int × List Int
def prb (ps : List Prb) (r : Nat) : Prb := ps.getD r (0, 0, [])
theorem prb_set_same {ps : List Prb} {r : Nat} {z : Prb} (h : r < ps.length) : prb (ps.set r z) r = z := by simp [prb, List.getD, h]
theorem prb_set_other {ps : List Prb} {r s : Nat} {z : Prb} (h : s ≠ r) : prb (ps.set r z) s = prb ps s := by simp [prb, List.getD, Ne.symm h]
/-- Three values an element, one behind the other. -/
def flat3 : List (Value × Value × Value) → List Value
  | [] => []
  | p :: r => p.1 :: p.2.1 :: p.2.2 :: flat3 r
theorem flat3_len : ∀ l : List (Value × Value × Value), (flat3 l).length = l.length * 3
  | [] => rfl
  | p :: r => by simp only [flat3, List.length_cons, flat3_len r]; omega
theorem flat3_append : ∀ l m : List (Value × Value × Value), flat3 (l ++ m) = flat3 l ++ flat3 m
  | [], _ => rfl
  | p :: r, m => by simp only [List.cons_append, flat3, flat3_append r m]
theorem flat3_at : ∀ (l : List (Value × Value × Value)) (k : Nat) (p : Value × Value × Value), l[k]? = some p → (flat3 l)[k * 3]? = some p.1 ∧ (flat3 l)[k * 3 + 1]? = some p.2.1 ∧ (flat3 l)[k * 3 + 2]? = some p.2.2
  | [], k, p, h => by simp at h
  | q :: r, 0, p, h => by simp at h; subst h; exact ⟨rfl, rfl, rfl⟩
  | q :: r, k + 1, p, h => by
    have ih := flat3_at r k p (by simpa using h)
    rw [show (k + 1) * 3 = k * 3 + 1 + 1 + 1 by omega, show k * 3 + 1 + 1 + 1 + 1 = (k * 3 + 1) + 1 + 1 + 1 by omega, show k * 3 + 1 + 1 + 1 + 2 = (k * 3 + 2) + 1 + 1 + 1 by omega]
    simp only [flat3, List.getElem?_cons_succ]
    exact ih
theorem flat3_set : ∀ (l : List (Value × Value × Value)) (k : Nat) (p : Value × Value × Value), flat3 (l.set k p) = (((flat3 l).set (k * 3) p.1).set (k * 3 + 1) p.2.1).set (k * 3 + 2) p.2.2
  | [], k, p => by simp [flat3]
  | q :: r, 0, p => rfl
  | q :: r, k + 1, p => by
    rw [List.set_cons_succ, flat3, flat3_set r k p, flat3, show (k + 1) * 3 = k * 3 + 1 + 1 + 1 by omega]
    rfl
def FitQ (ps : List Prb) : Prop := ∀ p ∈ ps, (Lit.int .i64 p.1).wf = true ∧ (Lit.int .i64 p.2.1).wf = true
theorem prb_mem {ps : List Prb} {r : Nat} (h : r < ps.length) : prb ps r ∈ ps := by simp [prb, List.getD, h]
/-- The slice's elements are the probes ps. -/
def SeesQ (w : World) (a : Option Addr) (len : Nat) (ps : List Prb) : Prop :=
  ps.length = len ∧ FitQ ps ∧ ∀ r, r < len → ∃ b off ar cr, a = some ⟨b, off, none⟩ ∧ b < w.heap.size ∧ w.cell? ⟨b, off + r * 3, none⟩ = some (.int .i64 (prb ps r).1) ∧ w.cell? ⟨b, off + r * 3 + 1, none⟩ = some (.int .i64 (prb ps r).2.1) ∧
    w.cell? ⟨b, off + r * 3 + 2, none⟩ = some (.slice ar (prb ps r).2.2.length cr) ∧ (prb ps r).2.2.length ≤ cr ∧ cr ≤ maxLen ∧ Sees .i64 w ar (prb ps r).2.2.length (prb ps r).2.2
theorem SeesQ.below {w w' : World} {a : Option Addr} {len : Nat} {ps : List Prb} (h : SeesQ w a len ps) (hb : Below w.heap.size w w') : SeesQ w' a len ps := by
  refine ⟨h.1, h.2.1, fun r hr => ?_⟩
  obtain ⟨b, off, ar, cr, ha, hlt, c0, c1, c2, hl, hm, hs⟩ := h.2.2 r hr
  exact ⟨b, off, ar, cr, ha, Nat.lt_of_lt_of_le hlt hb.size, (hb.cell (p := ⟨b, off + r * 3, none⟩) hlt).trans c0, (hb.cell (p := ⟨b, off + r * 3 + 1, none⟩) hlt).trans c1, (hb.cell (p := ⟨b, off + r * 3 + 2, none⟩) hlt).trans c2, hl, hm, hs.below hb⟩
/-- What a law's walk is told of an argument. -/
def IsPrbs (w : World) (a : Option Addr) (len : Nat) (ps : List Prb) : Prop := SeesQ w a len ps ∧ len ≤ maxLen
theorem isPrbs_nil (w : World) (a : Option Addr) : IsPrbs w a 0 [] := ⟨⟨rfl, (fun _ h => by cases h), fun r hr => by omega⟩, Nat.zero_le _⟩
def headQ (A : Nat → Option Addr) (C : Nat → Nat) (ps : List Prb) (r : Nat) : Value × Value × Value := (.int .i64 (prb ps r).1, .int .i64 (prb ps r).2.1, .slice (A r) (prb ps r).2.2.length (C r))
def headsQ (A : Nat → Option Addr) (C : Nat → Nat) (ps : List Prb) : List (Value × Value × Value) := (List.range ps.length).map (headQ A C ps)
theorem headsQ_len (A : Nat → Option Addr) (C : Nat → Nat) (ps : List Prb) : (headsQ A C ps).length = ps.length := by simp [headsQ]
theorem headsQ_at {A : Nat → Option Addr} {C : Nat → Nat} {ps : List Prb} {r : Nat} (h : r < ps.length) : (headsQ A C ps)[r]? = some (headQ A C ps r) := by simp [headsQ, h]
/-- Each path is the call's own, in a block of its own. -/
def ApartQ (w : World) (lo hi : Nat) (a : Option Addr) (ps : List Prb) (A : Nat → Option Addr) (C : Nat → Nat) : Prop :=
  ∀ r, r < ps.length → Own .i64 3 w lo hi (A r) (prb ps r).2.2.length (C r) (prb ps r).2.2 ∧
    ∀ x, A r = some x → (∀ y, a = some y → x.block ≠ y.block) ∧ ∀ s, s < ps.length → s ≠ r → ∀ y, A s = some y → x.block ≠ y.block
/-- A slice of probes of the call's own. -/
def OwnQ (w : World) (lo hi : Nat) (a : Option Addr) (len cap : Nat) (ps : List Prb) : Prop :=
  ps.length = len ∧ FitQ ps ∧ hi ≤ w.heap.size ∧ (∀ x, a = some x → lo ≤ x.block ∧ x.block < hi) ∧
    ∃ A C, w.ownsRow lo 38 3 (.slice a len cap) len (flat3 (headsQ A C ps)) ∧ ApartQ w lo hi a ps A C
theorem ownsRow3_spot {w : World} {lo size : Nat} {e : TypeId} {a : Option Addr} {n cap : Nat} {xs : List Value} (h : w.ownsRow lo e size (.slice a n cap) n xs) :
    (a = none ∧ n = 0) ∨ ∃ g, a = some ⟨g, 0, none⟩ ∧ lo ≤ g ∧ g < w.heap.size ∧ n ≤ cap ∧ cap ≤ maxLen ∧ (∀ j, j < n * size → w.cell? ⟨g, j, none⟩ = xs[j]?) ∧ ∀ j, w.frozen? ⟨g, j, none⟩ = false := by
  have h' := h
  rcases h.2 with ⟨hv, hn⟩ | ⟨g, c, cur, hv, hlo, hg, hnc, hcm, hcs, htk⟩
  · simp only [Value.slice.injEq] at hv
    exact .inl ⟨hv.1, hn⟩
  · simp only [Value.slice.injEq, true_and] at hv
    obtain ⟨rfl, rfl⟩ := hv
    exact .inr ⟨g, rfl, hlo, (Array.getElem?_eq_some_iff.1 hg).1, hnc, hcm, fun j hj => h'.cellAt j hj, fun j => h'.frozenAt j⟩
theorem OwnQ.sees {w : World} {lo hi : Nat} {a : Option Addr} {len cap : Nat} {ps : List Prb} (h : OwnQ w lo hi a len cap ps) : SeesQ w a len ps := by
  obtain ⟨h1, hf, h2, h3, A, C, h4, h5⟩ := h
  refine ⟨h1, hf, fun r hr => ?_⟩
  rcases ownsRow3_spot h4 with ⟨_, h0⟩ | ⟨g, rfl, _, hg, _, _, hc, _⟩
  · omega
  · have ho := (h5 r (by omega)).1
    obtain ⟨f0, f1, f2⟩ := flat3_at _ r _ (headsQ_at (A := A) (C := C) (ps := ps) (r := r) (by omega))
    exact ⟨g, 0, A r, C r, rfl, hg, by rw [Nat.zero_add, hc _ (by omega), f0]; rfl, by rw [Nat.zero_add, hc _ (by omega), f1]; rfl, by rw [Nat.zero_add, hc _ (by omega), f2]; rfl, ho.cap, ho.capMax, ho.sees⟩
theorem ownsRow3_kept {w w' : World} {lo lo2 hi2 size : Nat} {e : TypeId} {a : Option Addr} {n cap : Nat} {xs : List Value} (h : w.ownsRow lo e size (.slice a n cap) n xs) (hm : Moved lo2 hi2 w w') (hne : ∀ x, a = some x → ¬ (lo2 ≤ x.block ∧ x.block < hi2)) : w'.ownsRow lo e size (.slice a n cap) n xs := by
  refine ⟨h.1, ?_⟩
  rcases h.2 with h | ⟨g, c, cur, hv, hlo, hg, rest⟩
  · exact .inl h
  · refine .inr ⟨g, c, cur, hv, hlo, ?_, rest⟩
    simp only [Value.slice.injEq, true_and] at hv
    rw [hm.block g (Array.getElem?_eq_some_iff.1 hg).1 (hne _ hv.1)]
    exact hg
theorem ownsRow3_wide {w : World} {lo lo2 size : Nat} {e : TypeId} {a : Option Addr} {n cap : Nat} {xs : List Value} (h : w.ownsRow lo e size (.slice a n cap) n xs) (hl : lo2 ≤ lo) : w.ownsRow lo2 e size (.slice a n cap) n xs := by
  refine ⟨h.1, ?_⟩
  rcases h.2 with h | ⟨g, c, cur, hv, hlo, rest⟩
  · exact .inl h
  · exact .inr ⟨g, c, cur, hv, Nat.le_trans hl hlo, rest⟩
theorem OwnQ.moved {w w' : World} {lo hi lo2 hi2 : Nat} {a : Option Addr} {len cap : Nat} {ps : List Prb} (h : OwnQ w lo hi a len cap ps) (hm : Moved lo2 hi2 w w') (ho : hi ≤ lo2 ∨ hi2 ≤ lo) : OwnQ w' lo hi a len cap ps := by
  obtain ⟨h1, hf, h2, h3, A, C, h4, h5⟩ := h
  refine ⟨h1, hf, Nat.le_trans h2 hm.size, h3, A, C, ownsRow3_kept h4 hm (fun x hx => by have := h3 x hx; omega), fun r hr => ⟨?_, (h5 r hr).2⟩⟩
  exact (h5 r hr).1.moved hm ho
theorem OwnQ.below {w w' : World} {lo hi : Nat} {a : Option Addr} {len cap : Nat} {ps : List Prb} (h : OwnQ w lo hi a len cap ps) (hb : Below w.heap.size w w') : OwnQ w' lo hi a len cap ps :=
  h.moved (Moved.of_below (lo := hi) (hi := hi) hb) (.inl (Nat.le_refl _))
theorem OwnQ.wide {w : World} {lo hi lo2 hi2 : Nat} {a : Option Addr} {len cap : Nat} {ps : List Prb} (h : OwnQ w lo hi a len cap ps) (h1 : lo2 ≤ lo) (h2 : hi ≤ hi2) (h3 : hi2 ≤ w.heap.size) : OwnQ w lo2 hi2 a len cap ps := by
  obtain ⟨g1, gf, _, g3, A, C, g4, g5⟩ := h
  exact ⟨g1, gf, h3, fun x hx => ⟨Nat.le_trans h1 (g3 x hx).1, Nat.lt_of_lt_of_le (g3 x hx).2 h2⟩, A, C, ownsRow3_wide g4 h1, fun r hr => ⟨(g5 r hr).1.wide h1 h2 h3, (g5 r hr).2⟩⟩
theorem OwnQ.room {w : World} {lo hi : Nat} {a : Option Addr} {len cap : Nat} {ps : List Prb} (h : OwnQ w lo hi a len cap ps) : len ≤ cap ∧ cap ≤ maxLen := by
  obtain ⟨_, _, _, _, A, C, h4, _⟩ := h
  rcases h4.2 with ⟨hv, hn⟩ | ⟨g, c, cur, hv, _, _, hnc, hcm, _⟩
  · simp only [Value.slice.injEq] at hv
    rw [hv.2.1, hv.2.2]; exact ⟨Nat.le_refl _, Nat.zero_le _⟩
  · simp only [Value.slice.injEq, true_and] at hv
    rw [hv.2]; exact ⟨hnc, hcm⟩
/-- A new probe is put into place k: three cells. -/
def put3 (w : World) (g k : Nat) (p : Value × Value × Value) : World := ((w.setCell ⟨g, k * 3, none⟩ p.1).setCell ⟨g, k * 3 + 1, none⟩ p.2.1).setCell ⟨g, k * 3 + 2, none⟩ p.2.2
theorem put3_size (w : World) (g k : Nat) (p : Value × Value × Value) : (put3 w g k p).heap.size = w.heap.size := by simp [put3, World.setCell]
theorem put3_grown (w : World) (g k : Nat) (p : Value × Value × Value) : Moved g (g + 1) w (put3 w g k p) := by
  have h : ∀ (v : World) (o : Nat) (x : Value), Moved g (g + 1) v (v.setCell ⟨g, o, none⟩ x) := fun v o x =>
    ⟨rfl, rfl, rfl, by simp [World.setCell], fun j hj hne => Below.heap_setCell v _ x j (by simp; omega)⟩
  exact ((h w _ _).trans (h _ _ _)).trans (h _ _ _)
theorem ownsRow3_put {w : World} {lo g n cap : Nat} {l : List (Value × Value × Value)} (h : w.ownsRow lo 38 3 (.slice (some ⟨g, 0, none⟩) n cap) n (flat3 l)) (k : Nat) (p : Value × Value × Value) : (put3 w g k p).ownsRow lo 38 3 (.slice (some ⟨g, 0, none⟩) n cap) n (flat3 (l.set k p)) := by
  rw [flat3_set]
  exact ((((h.stored (k * 3) p.1).1).stored (k * 3 + 1) p.2.1).1.stored (k * 3 + 2) p.2.2).1
theorem OwnQ.put {w w' : World} {lo hi g : Nat} {len cap : Nat} {ps : List Prb} (h : OwnQ w lo hi (some ⟨g, 0, none⟩) len cap ps) (hlo : lo ≤ w.heap.size) (hb : Below w.heap.size w w') {a' : Option Addr} {c' : Nat} {p : Prb} (hp : (Lit.int .i64 p.1).wf = true ∧ (Lit.int .i64 p.2.1).wf = true)
    (hn : Own .i64 3 w' w.heap.size w'.heap.size a' p.2.2.length c' p.2.2) (k : Nat) (hk : k < len) :
    OwnQ (put3 w' g k (.int .i64 p.1, .int .i64 p.2.1, .slice a' p.2.2.length c')) lo w'.heap.size (some ⟨g, 0, none⟩) len cap (ps.set k p) ∧ Moved lo hi w (put3 w' g k (.int .i64 p.1, .int .i64 p.2.1, .slice a' p.2.2.length c')) := by
  have hM := h.below hb
  obtain ⟨h1, hf, h2, h3, A, C, h4, h5⟩ := hM
  have hg := h3 _ rfl
  simp only at hg
  have hiw : hi ≤ w.heap.size := h.2.2.1
  have hmg := put3_grown w' g k (.int .i64 p.1, .int .i64 p.2.1, .slice a' p.2.2.length c')
  have s1 := ownsRow3_put h4 k (.int .i64 p.1, .int .i64 p.2.1, .slice a' p.2.2.length c')
  refine ⟨⟨by simpa using h1, ?_, by rw [put3_size]; exact Nat.le_refl _, fun x hx => by cases hx; simp; omega, fun r => if r = k then a' else A r, fun r => if r = k then c' else C r, ?_, ?_⟩, ?_⟩
  · intro q hq
    rcases List.mem_or_eq_of_mem_set hq with hm | rfl
    · exact hf q hm
    · exact hp
  · have e : (headsQ A C ps).set k (.int .i64 p.1, .int .i64 p.2.1, .slice a' p.2.2.length c') = headsQ (fun r => if r = k then a' else A r) (fun r => if r = k then c' else C r) (ps.set k p) := by
      apply List.ext_getElem?
      intro i
      by_cases hi : i < ps.length
      · rw [headsQ_at (by simpa using hi), List.getElem?_set]
        by_cases hik : k = i
        · subst hik
          rw [if_pos rfl, if_pos (by rw [headsQ_len]; exact hi)]
          simp only [headQ, prb_set_same hi, if_true]
        · rw [if_neg hik, headsQ_at hi]
          have hik' : ¬ i = k := fun e => hik e.symm
          simp only [headQ, prb_set_other hik', hik', if_false]
      · rw [List.getElem?_eq_none (by rw [List.length_set, headsQ_len]; omega), List.getElem?_eq_none (by rw [headsQ_len, List.length_set]; omega)]
    rw [← e]
    exact s1
  · intro r hr
    have hr' : r < ps.length := by simpa using hr
    by_cases hrk : r = k
    · subst hrk
      simp only [if_true]
      rw [prb_set_same hr']
      refine ⟨(hn.off hmg (fun x hx => ?_)).wide (by omega) (Nat.le_refl _) (by rw [put3_size]; exact Nat.le_refl _), fun x hx => ?_⟩
      · have := hn.2.2.2.2 x hx
        omega
      · have hx1 := hn.2.2.2.2 x hx
        refine ⟨fun y hy => by cases hy; simp only; omega, fun s hs hsr y hy => ?_⟩
        rw [if_neg hsr] at hy
        have := ((h5 s (by simpa using hs)).1).2.2.2.2 y hy
        omega
    · simp only [hrk, if_false]
      rw [prb_set_other hrk]
      obtain ⟨o1, o2⟩ := h5 r hr'
      have hblk : ∀ x, A r = some x → x.block ≠ g := fun x hx => (o2 x hx).1 _ rfl
      refine ⟨(o1.off hmg (fun x hx => by have := hblk x hx; omega)).wide (Nat.le_refl _) (by have := hb.size; omega) (by rw [put3_size]; exact Nat.le_refl _), fun x hx => ⟨(o2 x hx).1, fun s hs hsr y hy => ?_⟩⟩
      by_cases hsk : s = k
      · rw [if_pos hsk] at hy
        have h6 := hn.2.2.2.2 y hy
        have h7 := o1.2.2.2.2 x hx
        omega
      · rw [if_neg hsk] at hy
        exact (o2 x hx).2 s (by simpa using hs) hsr y hy
  · exact (Moved.of_below (lo := lo) (hi := hi) hb).trans ⟨hmg.os, hmg.tape, hmg.output, hmg.size, fun j hj hne => hmg.block j hj (by omega)⟩
end Go.Proofs.Ytjckcggjmcaaoaa
/- What the laws do to slices of probes: measure, copy, compare. -/
namespace Go.Proofs.Ytjckcggjmcaaoaa
open Go.RowKit
/-- The probes' paths. -/
def pathsOf (ps : List Prb) : List (List Int) := ps.map (·.2.2)
theorem pathsOf_len (ps : List Prb) : (pathsOf ps).length = ps.length := by simp [pathsOf]
theorem pathsOf_row {ps : List Prb} {r : Nat} (h : r < ps.length) : row (pathsOf ps) r = (prb ps r).2.2 := by simp [pathsOf, row, prb, List.getD, h]
def upToQ (ps : List Prb) (k : Nat) : List Prb := ps.take k ++ List.replicate (ps.length - k) (0, 0, [])
theorem upToQ_len (ps : List Prb) {k : Nat} (h : k ≤ ps.length) : (upToQ ps k).length = ps.length := by simp [upToQ]; omega
theorem upToQ_zero (ps : List Prb) : upToQ ps 0 = List.replicate ps.length (0, 0, []) := by simp [upToQ]
theorem upToQ_all (ps : List Prb) : upToQ ps ps.length = ps := by simp [upToQ]
theorem upToQ_set (ps : List Prb) {k : Nat} (h : k < ps.length) : (upToQ ps k).set k (prb ps k) = upToQ ps (k + 1) := by
  apply List.ext_getElem?
  intro i
  unfold upToQ prb
  rw [List.getElem?_set]
  by_cases hik : k = i
  · subst hik
    rw [if_pos rfl, if_pos (by simp; omega), List.getElem?_append_left (by simp; omega), List.getElem?_take, if_pos (by omega)]
    simp [List.getD, h]
  · rw [if_neg hik]
    rcases Nat.lt_or_ge i k with h1 | h1
    · rw [List.getElem?_append_left (by simp; omega), List.getElem?_append_left (by simp; omega), List.getElem?_take, List.getElem?_take, if_pos h1, if_pos (by omega)]
    · rw [List.getElem?_append_right (by simp; omega), List.getElem?_append_right (by simp; omega), List.getElem?_replicate, List.getElem?_replicate]
      simp only [List.length_take]
      congr 1
      rw [eq_iff_iff]
      omega
theorem prb_repl (n r : Nat) : prb (List.replicate n (0, 0, [])) r = (0, 0, []) := by
  unfold prb List.getD
  rw [List.getElem?_replicate]
  split <;> rfl
theorem info_prb : (Try.prog.info? 38).map (fun i => (i.zero, i.size, i.bytes)) = some (some (.agg #[.int .i64 0, .int .i64 0, .slice none 0 0]), 3, 40) := by kernel_rfl
theorem flat3_repl : ∀ (n : Nat) (p : Value × Value × Value), flat3 (List.replicate (n + 1) p) = p.1 :: p.2.1 :: p.2.2 :: flat3 (List.replicate n p) := fun n p => by rw [List.replicate_succ]; rfl
theorem madeQ_row (w : World) (lo len g : Nat) (hlo : lo ≤ g) (hg : g < w.heap.size) (h : w.ownsRow lo 38 3 (.slice (some ⟨g, 0, none⟩) len len) len (madeCells (Value.agg #[.int .i64 0, .int .i64 0, .slice none 0 0]).cells (len * 3)).toList) : OwnQ w lo w.heap.size (some ⟨g, 0, none⟩) len len (List.replicate len (0, 0, [])) := by
  refine ⟨by simp, fun p hp => by rw [List.eq_of_mem_replicate hp]; exact ⟨by decide, by decide⟩, Nat.le_refl _, fun x hx => by cases hx; exact ⟨hlo, hg⟩, fun _ => none, fun _ => 0, ?_, fun r hr => ⟨?_, fun x hx => by cases hx⟩⟩
  · have e : flat3 (headsQ (fun _ => none) (fun _ => 0) (List.replicate len (0, 0, []))) = (madeCells (Value.agg #[.int .i64 0, .int .i64 0, .slice none 0 0]).cells (len * 3)).toList := by
      have hc : (Value.agg #[.int .i64 0, .int .i64 0, .slice none 0 0]).cells = #[.int .i64 0, .int .i64 0, .slice none 0 0] := rfl
      rw [hc]
      have hh : headsQ (fun _ => none) (fun _ => 0) (List.replicate len (0, 0, [])) = List.replicate len (.int .i64 0, .int .i64 0, .slice none 0 0) := by
        apply List.ext_getElem?
        intro i
        by_cases hi : i < len
        · rw [headsQ_at (by simpa using hi), List.getElem?_replicate, if_pos hi]
          simp [headQ, prb_repl]
        · rw [List.getElem?_eq_none (by rw [headsQ_len]; simp; omega), List.getElem?_eq_none (by simp; omega)]
      rw [hh]
      apply List.ext_getElem?
      intro j
      by_cases hj : j < len * 3
      · have hk : j / 3 < len := by omega
        obtain ⟨f0, f1, f2⟩ := flat3_at (List.replicate len ((.int .i64 0, .int .i64 0, .slice none 0 0) : Value × Value × Value)) (j / 3) _ (by rw [List.getElem?_replicate, if_pos hk])
        have h3 : j % 3 = 0 ∨ j % 3 = 1 ∨ j % 3 = 2 := by omega
        rcases h3 with h3 | h3 | h3
        · rw [show j / 3 * 3 = j by omega] at f0
          rw [f0]
          simp [madeCells, hj, h3]
        · rw [show j / 3 * 3 + 1 = j by omega] at f1
          rw [f1]
          simp [madeCells, hj, h3]
        · rw [show j / 3 * 3 + 2 = j by omega] at f2
          rw [f2]
          simp [madeCells, hj, h3]
      · rw [List.getElem?_eq_none (by rw [flat3_len]; simp; omega), List.getElem?_eq_none (by simp [madeCells]; omega)]
    rw [e]
    exact h
  · rw [prb_repl]
    exact own_none0 _ _ _ _ (Nat.le_refl _)
/-- What a call leaves that makes a slice of probes. -/
def MadeQ (ps : List Prb) (w : World) (E : Ending) (w' : World) : Prop :=
  ∃ a len cap, E = .returned (.slice a len cap) ∧ OwnQ w' w.heap.size w'.heap.size a len cap ps ∧ Below w.heap.size w w'
/-- What a call leaves that makes a probe. -/
def MadePrb (p : Prb) (w : World) (E : Ending) (w' : World) : Prop :=
  ∃ a len cap, E = .returned (.agg #[.int .i64 p.1, .int .i64 p.2.1, .slice a len cap]) ∧ Own .i64 3 w' w.heap.size w'.heap.size a len cap p.2.2 ∧ Below w.heap.size w w'
theorem moved_set3 {lo hi : Nat} (w : World) (C o : Nat) (v : Value) (h1 : lo ≤ C) (h2 : C < hi) : Moved lo hi w (w.setCell ⟨C, o, none⟩ v) := Moved.of_grown (grown_setCell _ _ _ _) h1 h2
set_option maxRecDepth 20000 in
set_option maxHeartbeats 1600000 in
theorem toPrb_any (W : World) (x y : Int) (a : Option Addr) (len cap : Nat) (zs : List Int) (hl : len ≤ 1073741824) (hs : Sees .i64 W a len zs) :
    Calls Try.prog 38 #[.agg #[.int .i64 x, .int .i64 y, .slice a len cap]] W (MadePrb (x, y, zs) W) := by
  obtain ⟨V, hV⟩ : ∃ V, V = (((W.alloc (.cells #[.int .i64 x, .int .i64 y, .slice a len cap] 65)).alloc (.cells #[.int .i64 0, .int .i64 0, .slice none 0 0] 38)).alloc (.cells #[.int .i64 x, .int .i64 y, .slice none 0 0] 38)) := ⟨_, rfl⟩
  have hb0 : Below W.heap.size W V := by
    rw [hV]
    exact (((Below.refl _ _).alloc (Nat.le_refl _) _).alloc (by simp) _).alloc (by simp; omega) _
  have hz : V.heap.size = W.heap.size + 3 := by rw [hV]; simp
  have k1 : V.cell? ⟨W.heap.size + 1, 0, none⟩ = some (.int .i64 0) := by rw [hV]; go_simp
  have k2 : V.cell? ⟨W.heap.size + 1, 1, none⟩ = some (.int .i64 0) := by rw [hV]; go_simp
  have k3 : V.cell? ⟨W.heap.size + 1, 2, none⟩ = some (.slice none 0 0) := by rw [hV]; go_simp
  have k4 : V.cell? ⟨W.heap.size + 1 + 1, 0, none⟩ = some (.int .i64 x) := by rw [hV]; go_simp
  have k5 : V.cell? ⟨W.heap.size + 1 + 1, 1, none⟩ = some (.int .i64 y) := by rw [hV]; go_simp
  have k6 : V.cell? ⟨W.heap.size + 1 + 1, 2, none⟩ = some (.slice none 0 0) := by rw [hV]; go_simp
  have f1 : V.frozen? ⟨W.heap.size + 1, 0, none⟩ = false := by rw [hV]; go_simp
  have f2 : V.frozen? ⟨W.heap.size + 1, 1, none⟩ = false := by rw [hV]; go_simp
  have f3 : V.frozen? ⟨W.heap.size + 1, 2, none⟩ = false := by rw [hV]; go_simp
  have f6 : V.frozen? ⟨W.heap.size + 1 + 1, 2, none⟩ = false := by rw [hV]; go_simp
  have HS := Lib.hid (hs.below hb0)
  have HB0 := Lib.hid hb0
  clear hs hb0
  go_enter Try.func38, Try.ntmps38
  go_wp2_with fail
  rw [← hV]
  clear hV
  refine (toI_any V a len cap zs hl HS.out).mono ?_
  rintro e w1 ⟨a1, l1, c1, rfl, ho, hb⟩
  have HO := Lib.hid ho
  have HB1 := Lib.hid hb
  have g1 := (hb.cell (p := ⟨W.heap.size + 1, 0, none⟩) (by simp [hz])).trans k1
  have g2 := (hb.cell (p := ⟨W.heap.size + 1, 1, none⟩) (by simp [hz])).trans k2
  have g3 := (hb.cell (p := ⟨W.heap.size + 1, 2, none⟩) (by simp [hz])).trans k3
  have g4 := (hb.cell (p := ⟨W.heap.size + 1 + 1, 0, none⟩) (by simp [hz])).trans k4
  have g5 := (hb.cell (p := ⟨W.heap.size + 1 + 1, 1, none⟩) (by simp [hz])).trans k5
  have g6 := (hb.cell (p := ⟨W.heap.size + 1 + 1, 2, none⟩) (by simp [hz])).trans k6
  have e1 := (hb.frozen (p := ⟨W.heap.size + 1, 0, none⟩) (by simp [hz])).trans f1
  have e2 := (hb.frozen (p := ⟨W.heap.size + 1, 1, none⟩) (by simp [hz])).trans f2
  have e3 := (hb.frozen (p := ⟨W.heap.size + 1, 2, none⟩) (by simp [hz])).trans f3
  have e6 := (hb.frozen (p := ⟨W.heap.size + 1 + 1, 2, none⟩) (by simp [hz])).trans f6
  clear ho hb k1 k2 k3 k4 k5 k6 f1 f2 f3 f6
  go_wp2
  have hm : Moved W.heap.size V.heap.size w1 ((((w1.setCell ⟨W.heap.size + 1 + 1, 2, none⟩ (.slice a1 l1 c1)).setCell ⟨W.heap.size + 1, 0, none⟩ (.int .i64 x)).setCell ⟨W.heap.size + 1, 1, none⟩ (.int .i64 y)).setCell ⟨W.heap.size + 1, 2, none⟩ (.slice a1 l1 c1)) :=
    (((moved_set3 _ _ _ _ (by omega) (by omega)).trans (moved_set3 _ _ _ _ (by omega) (by omega))).trans (moved_set3 _ _ _ _ (by omega) (by omega))).trans (moved_set3 _ _ _ _ (by omega) (by omega))
  refine bodyPost_ret (v := .agg #[.int .i64 x, .int .i64 y, .slice a1 l1 c1]) (by simp [results, Try.results38, go_sem, g1, g2, g3]) rfl ⟨a1, l1, c1, rfl, ?_, ?_⟩
  · exact (HO.out.moved hm (.inr (Nat.le_refl _))).wide (by omega) hm.size (Nat.le_refl _)
  · exact below_moved (below_up HB0.out HB1.out (Nat.le_refl _)) hm (Nat.le_refl _) (Nat.le_refl _)
set_option maxRecDepth 20000 in
set_option maxHeartbeats 1600000 in
theorem toQ_any (W : World) (a : Option Addr) (len cap : Nat) (ps : List Prb) (hsm : SmallM (pathsOf ps)) (hs : SeesQ W a len ps) : Calls Try.prog 16 #[.slice a len cap] W (MadeQ ps W) := by
  have HS := Lib.hid hs
  have HL := Lib.hid hs.1
  have HM := Lib.hid hsm
  have hl : len ≤ 1048576 := by unfold SmallM at hsm; rw [pathsOf_len] at hsm; have := hs.1; omega
  clear hs hsm
  obtain ⟨i0, hi, hz0, hz1, hz2⟩ := info_parts info_prb
  go_enter Try.func16, Try.ntmps16
  go_wp2_with (at_make; refine wpList_make_full _ rfl _ _ 30 rfl W.heap.size 38 i0 (.agg #[.int .i64 0, .int .i64 0, .slice none 0 0]) 3 Try.underlying30 hi hz0 hz1 _ _ _ _ len rfl rfl rfl rfl (by rw [hz2]; omega) (by unfold maxLen; omega) (by simp) ?_; intro w1 hown1 hgrow1; have HB1 := Lib.hid ((Below.refl W.heap.size W).grown hgrow1 (Nat.le_refl _) (fun k e => by cases e)); have HO1 := Lib.hid (madeQ_row w1 W.heap.size len W.heap.size (Nat.le_refl _) (hown1.lt _ rfl).2 hown1); clear hown1 hgrow1)
  go_loopw [4] (fun i wr => ∃ k : Nat, k ≤ len ∧ i = .int .i64 k ∧ OwnQ wr W.heap.size wr.heap.size (some ⟨W.heap.size, 0, none⟩) len len (upToQ ps k) ∧ Below W.heap.size W wr) (fun i _ => len - (intOf i).toNat)
  case atStart => exact ⟨0, Nat.zero_le _, rfl, by rw [upToQ_zero, HL.out]; exact HO1.out, HB1.out⟩
  case round =>
    obtain ⟨k, hk, rfl, ho, hb⟩ := hrel
    have HO := Lib.hid ho
    have HB := Lib.hid hb
    by_cases hlt : k < len
    · obtain ⟨b, off, ar, cr, rfl, hbl, hc0, hc1, hc2, hle, hcm, hsr⟩ := HS.out.2.2 k hlt
      have hfit := HS.out.2.1 _ (prb_mem (ps := ps) (r := k) (by rw [HL.out]; exact hlt))
      have hw0 := (hb.cell (p := ⟨b, off + k * 3, none⟩) hbl).trans hc0
      have hw1 := (hb.cell (p := ⟨b, off + k * 3 + 1, none⟩) hbl).trans hc1
      have hw2 := (hb.cell (p := ⟨b, off + k * 3 + 2, none⟩) hbl).trans hc2
      obtain ⟨x, y, zs, hp⟩ : ∃ x y zs, prb ps k = (x, y, zs) := ⟨_, _, _, rfl⟩
      have hrl : zs.length ≤ 1073741824 := by
        have h := HM.out.row (r := k) (by rw [pathsOf_len, HL.out]; exact hlt)
        rw [pathsOf_row (by rw [HL.out]; exact hlt), hp] at h
        simp only at h
        omega
      rw [hp] at hw0 hw1 hw2 hsr hfit
      simp only at hw0 hw1 hw2 hsr hfit
      have HZ := Lib.hid hp
      have HF := Lib.hid hfit
      have HR : Hid (Sees .i64 wr ar zs.length zs) := Lib.hid (by
        refine ⟨hsr.1, hsr.2.1, ?_⟩
        rcases hsr.2.2 with h0 | ⟨b2, o2, ha2, hlt2, hc2⟩
        · exact .inl h0
        · exact .inr ⟨b2, o2, ha2, Nat.lt_of_lt_of_le hlt2 hb.size, fun j hj => (hb.cell (p := ⟨b2, o2 + j, none⟩) hlt2).trans (hc2 j hj)⟩)
      clear hc0 hc1 hc2 hsr hp hle hcm ho hb hfit
      go_wp2_with fail
      go_at_call 38
      refine (toPrb_any _ x y _ zs.length _ zs hrl HR.out).mono ?_
      rintro e w2 ⟨a2, l2, c2, rfl, ho2, hb2⟩
      obtain rfl : zs.length = l2 := ho2.1
      have HP := Lib.hid (HO.out.put (p := (x, y, zs)) (by have := HB.out.size; omega) hb2 HF.out ho2 k hlt)
      have HM2 := HO.out.below hb2
      obtain ⟨_, _, _, hin, A, C, hrow, _⟩ := HM2
      have hfz0 := hrow.frozenAt (k * 3)
      have hfz1 := hrow.frozenAt (k * 3 + 1)
      have hfz2 := hrow.frozenAt (k * 3 + 2)
      obtain ⟨q0, q1, q2⟩ := flat3_at _ k _ (headsQ_at (A := A) (C := C) (ps := upToQ ps k) (r := k) (by rw [upToQ_len _ (by rw [HL.out]; omega), HL.out]; exact hlt))
      have hd0 := (hrow.cellAt (k * 3) (by omega)).trans q0
      have hd1 := (hrow.cellAt (k * 3 + 1) (by omega)).trans q1
      have hd2 := (hrow.cellAt (k * 3 + 2) (by omega)).trans q2
      clear hrow hin ho2 hb2 q0 q1 q2
      go_wp2
      go_roundw
      case rel =>
        have hp := HP.out.1
        have hset := upToQ_set ps (k := k) (by rw [HL.out]; exact hlt)
        rw [HZ.out] at hset
        rw [hset] at hp
        exact ⟨k + 1, by omega, by go_num, by simpa [put3, World.setCell] using hp, below_moved HB.out HP.out.2 (Nat.le_refl _) (Nat.le_refl _)⟩
      case measure => simp [intOf]; omega
    · clear ho hb
      obtain rfl : k = len := by omega
      go_wp2
      go_ret
      have h := HO.out
      have e : upToQ ps k = ps := by rw [← HL.out]; exact upToQ_all ps
      rw [e] at h
      exact ⟨_, _, _, rfl, h, HB.out⟩
end Go.Proofs.Ytjckcggjmcaaoaa
/- Slices of probes: their measure, and that two of the same are the same. -/
namespace Go.Proofs.Ytjckcggjmcaaoaa
open Go.RowKit
theorem szPrb_any (W : World) (x y : Int) (a : Option Addr) (len cap : Nat) (left v : Int) (hl : len ≤ maxLen) (h0 : 0 ≤ left) (h1 : left ≤ 1048576) (hv : v = if left < (len : Int) then -1 else left - (len : Int)) :
    Calls Try.prog 37 #[.agg #[.int .i64 x, .int .i64 y, .slice a len cap], .int .i64 left] W fun e w' => e = .returned (.int .i64 v) ∧ Below W.heap.size W w' := by
  obtain ⟨V, hV⟩ : ∃ V, V = W.alloc (.cells #[.int .i64 x, .int .i64 y, .slice a len cap] 65) := ⟨_, rfl⟩
  have hb0 : Below W.heap.size W V := by
    rw [hV]
    exact (Below.refl _ _).alloc (Nat.le_refl _) _
  have k1 : V.cell? ⟨W.heap.size, 2, none⟩ = some (.slice a len cap) := by rw [hV]; go_simp
  have HB0 := Lib.hid hb0
  have HV := Lib.hid hv
  clear hb0 hv
  by_cases hneg : left < (len : Int)
  · have HE : Hid (v = -1) := Lib.hid (by rw [HV.out, if_pos hneg])
    go_enter Try.func37, Try.ntmps37
    go_wp2_with fail
    rw [← hV]
    clear hV
    refine (szI_any V a len cap left (-1) hl h0 h1 (by rw [if_pos hneg])).mono ?_
    rintro e w1 ⟨rfl, rfl⟩
    go_wp2
    go_ret
    exact ⟨ret_intV HE.out.symm, HB0.out⟩
  · obtain ⟨z, hz⟩ : ∃ z, z = left - (len : Int) := ⟨_, rfl⟩
    have hz0 : ¬ z < 0 := by omega
    have HE : Hid (v = z) := Lib.hid (by rw [HV.out, if_neg hneg, hz])
    have HZ : Hid (z = if left < (len : Int) then -1 else left - (len : Int)) := Lib.hid (by rw [if_neg hneg]; exact hz)
    clear hz
    go_enter Try.func37, Try.ntmps37
    go_wp2_with fail
    rw [← hV]
    clear hV
    refine (szI_any V a len cap left z hl h0 h1 HZ.out).mono ?_
    rintro e w1 ⟨rfl, rfl⟩
    go_wp2
    go_ret
    exact ⟨ret_intV HE.out.symm, HB0.out⟩
set_option maxHeartbeats 800000 in
theorem szQ_any (W : World) (a : Option Addr) (len cap : Nat) (left : Int) (ps : List Prb) (v : Int) (hl : len ≤ maxLen) (hs : SeesQ W a len ps) (h0 : 0 ≤ left) (h1 : left ≤ 1048576) (hv : v = if left < (ps.length : Int) + (tot (pathsOf ps) ps.length : Int) then -1 else left - (ps.length : Int) - (tot (pathsOf ps) ps.length : Int)) :
    Calls Try.prog 14 #[.slice a len cap, .int .i64 left] W fun e w' => e = .returned (.int .i64 v) ∧ Below W.heap.size W w' := by
  have HS := Lib.hid hs
  have HL := Lib.hid hs.1
  have HV := Lib.hid hv
  clear hs hv
  unfold maxLen at hl
  by_cases h2 : left - (len : Int) < 0
  · have HE : Hid (v = -1) := Lib.hid (by rw [HV.out, if_pos (by rw [HL.out]; omega)])
    go_enter Try.func14, Try.ntmps14
    go_wp2
    go_ret
    exact ⟨ret_intV HE.out.symm, Below.refl _ _⟩
  · go_enter Try.func14, Try.ntmps14
    go_wp2
    go_loopw [1, 5] (fun q i wr => ∃ (k : Nat) (x : Int), k ≤ len ∧ i = .int .i64 k ∧ q = .int .i64 x ∧ x = left - (len : Int) - (tot (pathsOf ps) k : Int) ∧ 0 ≤ x ∧ Below W.heap.size W wr) (fun _ i _ => len - (intOf i).toNat)
    case atStart => exact ⟨0, _, Nat.zero_le _, rfl, rfl, by simp [tot], by omega, Below.refl _ _⟩
    case round =>
      obtain ⟨k, x, hk, rfl, rfl, hx, hx0, hb⟩ := hrel
      have HB := Lib.hid hb
      have HX := Lib.hid hx
      have hx1 : x ≤ 1048576 := by omega
      clear hx
      by_cases hlt : k < len
      · obtain ⟨b, off, ar, cr, rfl, hbl, hc0, hc1, hc2, hle, hcm, hsr⟩ := HS.out.2.2 k hlt
        have hw0 := (hb.cell (p := ⟨b, off + k * 3, none⟩) hbl).trans hc0
        have hw1 := (hb.cell (p := ⟨b, off + k * 3 + 1, none⟩) hbl).trans hc1
        have hw2 := (hb.cell (p := ⟨b, off + k * 3 + 2, none⟩) hbl).trans hc2
        obtain ⟨L, hL⟩ : ∃ L, L = (prb ps k).2.2.length := ⟨_, rfl⟩
        rw [← hL] at hw2 hle
        have HLr : Hid (L = (row (pathsOf ps) k).length) := Lib.hid (by rw [hL, pathsOf_row (by rw [HL.out]; exact hlt)])
        have HT : Hid (tot (pathsOf ps) (k + 1) ≤ tot (pathsOf ps) len) := Lib.hid (tot_mono (pathsOf ps) (by omega))
        have hLm : L ≤ maxLen := Nat.le_trans hle hcm
        obtain ⟨p0, hp0⟩ : ∃ z, z = (prb ps k).1 := ⟨_, rfl⟩
        obtain ⟨p1, hp1⟩ : ∃ z, z = (prb ps k).2.1 := ⟨_, rfl⟩
        rw [← hp0] at hw0
        rw [← hp1] at hw1
        clear hc0 hc1 hc2 hb hsr hL hle hcm hp0 hp1
        by_cases hneg : x < (L : Int)
        · have HE : Hid (v = -1) := Lib.hid (by
            rw [HV.out, if_pos]
            have h3 := HLr.out
            have h4 := HX.out
            have h5 := HL.out
            have h6 := HT.out
            simp only [tot] at h6
            rw [h5]
            omega)
          go_wp2_with fail
          go_at_call 37
          refine (szPrb_any _ p0 p1 _ L _ x (-1) hLm hx0 hx1 (by rw [if_pos hneg])).mono ?_
          rintro e w2 ⟨rfl, hb2⟩
          have HB2 := Lib.hid (below_up HB.out hb2 (Nat.le_refl _))
          clear hb2
          go_wp2
          go_ret
          exact ⟨ret_intV HE.out.symm, HB2.out⟩
        · obtain ⟨y, hy⟩ : ∃ y, y = x - (L : Int) := ⟨_, rfl⟩
          have hy0 : ¬ y < 0 := by omega
          have HY := Lib.hid hy
          have HY2 : Hid (y = if x < (L : Int) then -1 else x - (L : Int)) := Lib.hid (by rw [if_neg hneg]; exact hy)
          clear hy
          go_wp2_with fail
          go_at_call 37
          refine (szPrb_any _ p0 p1 _ L _ x y hLm hx0 hx1 HY2.out).mono ?_
          rintro e w2 ⟨rfl, hb2⟩
          have HB2 := Lib.hid (below_up HB.out hb2 (Nat.le_refl _))
          clear hb2
          go_wp2
          go_roundw
          case rel => exact ⟨k + 1, y, by omega, by go_num, rfl, by have h3 := HLr.out; have h4 := HX.out; have h5 := HY.out; simp only [tot]; omega, by omega, HB2.out⟩
          case measure => simp [intOf]; omega
      · obtain rfl : k = len := by omega
        have HE : Hid (v = x) := Lib.hid (by
          have h4 := HX.out
          have h5 := HL.out
          rw [HV.out, if_neg (by rw [h5]; omega), h5, h4])
        clear hb
        go_wp2
        go_ret
        exact ⟨ret_intV HE.out.symm, HB.out⟩
set_option maxRecDepth 20000 in
set_option maxHeartbeats 800000 in
theorem eqPrb_yes (W : World) (x y : Int) (a b : Option Addr) (len ca cb : Nat) (zs : List Int) (hl : len ≤ 1073741824) (ha : Sees .i64 W a len zs) (hb : Sees .i64 W b len zs) :
    Calls Try.prog 39 #[.agg #[.int .i64 x, .int .i64 y, .slice a len ca], .agg #[.int .i64 x, .int .i64 y, .slice b len cb]] W fun e w' => e = .returned (.bool true) ∧ Below W.heap.size W w' := by
  obtain ⟨V, hV⟩ : ∃ V, V = ((W.alloc (.cells #[.int .i64 x, .int .i64 y, .slice a len ca] 38)).alloc (.cells #[.int .i64 x, .int .i64 y, .slice b len cb] 38)) := ⟨_, rfl⟩
  have hb0 : Below W.heap.size W V := by
    rw [hV]
    exact ((Below.refl _ _).alloc (Nat.le_refl _) _).alloc (by simp) _
  have hz : V.heap.size = W.heap.size + 2 := by rw [hV]; simp
  have k1 : V.cell? ⟨W.heap.size, 0, none⟩ = some (.int .i64 x) := by rw [hV]; go_simp
  have k2 : V.cell? ⟨W.heap.size, 1, none⟩ = some (.int .i64 y) := by rw [hV]; go_simp
  have k3 : V.cell? ⟨W.heap.size, 2, none⟩ = some (.slice a len ca) := by rw [hV]; go_simp
  have k4 : V.cell? ⟨W.heap.size + 1, 0, none⟩ = some (.int .i64 x) := by rw [hV]; go_simp
  have k5 : V.cell? ⟨W.heap.size + 1, 1, none⟩ = some (.int .i64 y) := by rw [hV]; go_simp
  have k6 : V.cell? ⟨W.heap.size + 1, 2, none⟩ = some (.slice b len cb) := by rw [hV]; go_simp
  have HA := Lib.hid (ha.below hb0)
  have HC := Lib.hid (hb.below hb0)
  have HB0 := Lib.hid hb0
  clear ha hb hb0
  go_enter Try.func39, Try.ntmps39
  go_wp2_with fail
  rw [← hV]
  clear hV
  go_wp2_with fail
  refine (eqI_yes V a b len ca cb zs hl HA.out HC.out).mono ?_
  rintro e w1 ⟨rfl, hb⟩
  have HB1 := Lib.hid (below_up HB0.out hb (Nat.le_refl _))
  clear hb
  go_wp2
  go_ret
  exact ⟨rfl, HB1.out⟩
end Go.Proofs.Ytjckcggjmcaaoaa
/- Slices of probes: two of the same are the same. -/
namespace Go.Proofs.Ytjckcggjmcaaoaa
open Go.RowKit
set_option maxRecDepth 20000 in
set_option maxHeartbeats 1600000 in
theorem eqQ_yes (W : World) (a b : Option Addr) (len capa capb : Nat) (ps : List Prb) (hsm : SmallM (pathsOf ps)) (ha : SeesQ W a len ps) (hb : SeesQ W b len ps) :
    Calls Try.prog 18 #[.slice a len capa, .slice b len capb] W fun e w' => e = .returned (.bool true) ∧ Below W.heap.size W w' := by
  have HA := Lib.hid ha
  have HZ := Lib.hid hb
  have HM := Lib.hid hsm
  have HL := Lib.hid ha.1
  have hl : len ≤ 1048576 := by unfold SmallM at hsm; rw [pathsOf_len] at hsm; have := ha.1; omega
  clear ha hb hsm
  go_enter Try.func18, Try.ntmps18
  go_wp2
  go_loopw [5] (fun i wr => ∃ k : Nat, k ≤ len ∧ i = .int .i64 k ∧ Below W.heap.size W wr) (fun i _ => len - (intOf i).toNat)
  case atStart => exact ⟨0, Nat.zero_le _, rfl, Below.refl _ _⟩
  case round =>
    obtain ⟨k, hk, rfl, hbw⟩ := hrel
    have HB := Lib.hid hbw
    by_cases hlt : k < len
    · obtain ⟨b1, o1, a1, c1, rfl, hb1, h10, h11, h12, _, _, hs1⟩ := HA.out.2.2 k hlt
      obtain ⟨b2, o2, a2, c2, rfl, hb2, h20, h21, h22, _, _, hs2⟩ := HZ.out.2.2 k hlt
      have hx0 := (hbw.cell (p := ⟨b1, o1 + k * 3, none⟩) hb1).trans h10
      have hx1 := (hbw.cell (p := ⟨b1, o1 + k * 3 + 1, none⟩) hb1).trans h11
      have hx2 := (hbw.cell (p := ⟨b1, o1 + k * 3 + 2, none⟩) hb1).trans h12
      have hy0 := (hbw.cell (p := ⟨b2, o2 + k * 3, none⟩) hb2).trans h20
      have hy1 := (hbw.cell (p := ⟨b2, o2 + k * 3 + 1, none⟩) hb2).trans h21
      have hy2 := (hbw.cell (p := ⟨b2, o2 + k * 3 + 2, none⟩) hb2).trans h22
      have hs1w := Lib.hid (hs1.below hbw)
      have hs2w := Lib.hid (hs2.below hbw)
      have hrl0 : (prb ps k).2.2.length ≤ 1073741824 := by
        have := HM.out.row (r := k) (by rw [pathsOf_len, HL.out]; exact hlt)
        rw [pathsOf_row (by rw [HL.out]; exact hlt)] at this
        omega
      obtain ⟨x, y, zs, hp⟩ : ∃ x y zs, prb ps k = (x, y, zs) := ⟨_, _, _, rfl⟩
      rw [hp] at hx0 hx1 hx2 hy0 hy1 hy2 hs1w hs2w hrl0
      simp only at hx0 hx1 hx2 hy0 hy1 hy2 hs1w hs2w hrl0
      have HRL := Lib.hid hrl0
      have hk0 : (0 : Int) ≤ (k : Int) := Int.natCast_nonneg _
      have hk1 : (k : Int) < (len : Int) := by omega
      clear h10 h11 h12 h20 h21 h22 hs1 hs2 hp hbw hrl0
      go_wp2_with fail
      go_region_held3 (fun w' => (w'.cell? ⟨b1, o1 + k * 3, none⟩ = some (.int .i64 x) ∧ w'.cell? ⟨b1, o1 + k * 3 + 1, none⟩ = some (.int .i64 y) ∧ w'.cell? ⟨b1, o1 + k * 3 + 2, none⟩ = some (.slice a1 zs.length c1)) ∧ w'.cell? ⟨b2, o2 + k * 3, none⟩ = some (.int .i64 x) ∧ w'.cell? ⟨b2, o2 + k * 3 + 1, none⟩ = some (.int .i64 y) ∧ w'.cell? ⟨b2, o2 + k * 3 + 2, none⟩ = some (.slice a2 zs.length c2)) (go_keep) (first
        | (go_at_call 39; refine (eqPrb_yes _ x y _ _ zs.length _ _ zs HRL.out (hs1w.out.below (Below.refl _ _).drew) (hs2w.out.below (Below.refl _ _).drew)).mono ?_; rintro e w2 ⟨rfl, hb⟩; have HB2 := Lib.hid (below_up (w0 := wr) (Below.refl _ _).drew hb (Nat.le_refl _)); have hx0 := (HB2.out.cell (p := ⟨b1, o1 + k * 3, none⟩) (World.block_lt_of_cell? _ _ hx0)).trans hx0; have hx1 := (HB2.out.cell (p := ⟨b1, o1 + k * 3 + 1, none⟩) (World.block_lt_of_cell? _ _ hx1)).trans hx1; have hx2 := (HB2.out.cell (p := ⟨b1, o1 + k * 3 + 2, none⟩) (World.block_lt_of_cell? _ _ hx2)).trans hx2; have hy0 := (HB2.out.cell (p := ⟨b2, o2 + k * 3, none⟩) (World.block_lt_of_cell? _ _ hy0)).trans hy0; have hy1 := (HB2.out.cell (p := ⟨b2, o2 + k * 3 + 1, none⟩) (World.block_lt_of_cell? _ _ hy1)).trans hy1; have hy2 := (HB2.out.cell (p := ⟨b2, o2 + k * 3 + 2, none⟩) (World.block_lt_of_cell? _ _ hy2)).trans hy2; clear hb))
      go_wp2
      go_roundw
      case rel => exact ⟨k + 1, by omega, by go_num, HB.out.trans (HB2.out.mono HB.out.size)⟩
      case measure => simp [intOf]; omega
    · clear hbw
      go_wp2
      go_ret
      exact ⟨rfl, HB.out⟩
end Go.Proofs.Ytjckcggjmcaaoaa
/- Slices of probes: marks. -/
namespace Go.Proofs.Ytjckcggjmcaaoaa
open Go.RowKit
theorem headQ_eq {A : Nat → Option Addr} {C : Nat → Nat} {ps : List Prb} {i : Nat} {q : Prb} (hq : q.2.2.length = (prb ps i).2.2.length) (hi : i < ps.length) : headsQ A C (ps.set i q) = (headsQ A C ps).set i (.int .i64 q.1, .int .i64 q.2.1, .slice (A i) (prb ps i).2.2.length (C i)) := by
  apply List.ext_getElem?
  intro j
  by_cases hj : j < ps.length
  · rw [headsQ_at (by simpa using hj), List.getElem?_set]
    by_cases hij : i = j
    · subst hij
      rw [if_pos rfl, if_pos (by rw [headsQ_len]; exact hi)]
      simp only [headQ, prb_set_same hi, hq]
    · rw [if_neg hij, headsQ_at hj]
      simp only [headQ, prb_set_other (Ne.symm hij)]
  · rw [List.getElem?_eq_none (by rw [headsQ_len, List.length_set]; omega), List.getElem?_eq_none (by rw [List.length_set, headsQ_len]; omega)]
theorem fit_set {ps : List Prb} {i : Nat} {q : Prb} (h : FitQ ps) (hq : (Lit.int .i64 q.1).wf = true ∧ (Lit.int .i64 q.2.1).wf = true) : FitQ (ps.set i q) := by
  intro p hp
  rcases List.mem_or_eq_of_mem_set hp with hm | rfl
  · exact h p hm
  · exact hq
theorem list_set_id {α : Type} (l : List α) (k : Nat) (v : α) (h : l[k]? = some v) : l.set k v = l := by
  apply List.ext_getElem?
  intro j
  rw [List.getElem?_set]
  split
  · rename_i e; subst e
    split
    · exact h.symm
    · rename_i hh; rw [List.getElem?_eq_none (by omega)] at h; cases h
  · rfl
/-- Probe i alone: its ends may be turned. -/
theorem OwnQ.ends {w : World} {lo hi : Nat} {a : Option Addr} {len cap : Nat} {ps : List Prb} (h : OwnQ w lo hi a len cap ps) (i : Nat) (hi' : i < len) :
    ∃ g ai ci, a = some ⟨g, 0, none⟩ ∧ w.cell? ⟨g, i * 3, none⟩ = some (.int .i64 (prb ps i).1) ∧ w.cell? ⟨g, i * 3 + 1, none⟩ = some (.int .i64 (prb ps i).2.1) ∧ w.cell? ⟨g, i * 3 + 2, none⟩ = some (.slice ai (prb ps i).2.2.length ci) ∧ w.frozen? ⟨g, i * 3, none⟩ = false ∧ w.frozen? ⟨g, i * 3 + 1, none⟩ = false ∧
      ∀ x y : Int, (Lit.int .i64 x).wf = true → (Lit.int .i64 y).wf = true →
        OwnQ ((w.setCell ⟨g, i * 3, none⟩ (.int .i64 x)).setCell ⟨g, i * 3 + 1, none⟩ (.int .i64 y)) lo hi a len cap (ps.set i (x, y, (prb ps i).2.2)) ∧ Moved lo hi w ((w.setCell ⟨g, i * 3, none⟩ (.int .i64 x)).setCell ⟨g, i * 3 + 1, none⟩ (.int .i64 y)) := by
  obtain ⟨h1, hf, h2, h3, A, C, h4, h5⟩ := h
  rcases ownsRow3_spot h4 with ⟨_, h0⟩ | ⟨g, rfl, hlg, hg, _, _, hc, hz⟩
  · omega
  have hgb := h3 _ rfl
  simp only at hgb
  obtain ⟨f0, f1, f2⟩ := flat3_at _ i _ (headsQ_at (A := A) (C := C) (ps := ps) (r := i) (by omega))
  refine ⟨g, A i, C i, rfl, by rw [hc _ (by omega), f0]; rfl, by rw [hc _ (by omega), f1]; rfl, by rw [hc _ (by omega), f2]; rfl, hz _, hz _, fun x y hx hy => ?_⟩
  have hmv : Moved lo hi w ((w.setCell ⟨g, i * 3, none⟩ (.int .i64 x)).setCell ⟨g, i * 3 + 1, none⟩ (.int .i64 y)) := (moved_set3 _ _ _ _ hgb.1 hgb.2).trans (moved_set3 _ _ _ _ hgb.1 hgb.2)
  have hmg : Moved g (g + 1) w ((w.setCell ⟨g, i * 3, none⟩ (.int .i64 x)).setCell ⟨g, i * 3 + 1, none⟩ (.int .i64 y)) := (moved_set3 _ _ _ _ (Nat.le_refl _) (by omega)).trans (moved_set3 _ _ _ _ (Nat.le_refl _) (by omega))
  refine ⟨⟨by simpa using h1, fit_set hf ⟨hx, hy⟩, Nat.le_trans h2 hmv.size, h3, A, C, ?_, fun r hr => ?_⟩, hmv⟩
  · rw [headQ_eq (q := (x, y, (prb ps i).2.2)) (i := i) rfl (by omega), flat3_set]
    have hs := ((h4.stored (i * 3) (.int .i64 x)).1.stored (i * 3 + 1) (.int .i64 y)).1
    have e2 : ((((flat3 (headsQ A C ps)).set (i * 3) (.int .i64 x)).set (i * 3 + 1) (.int .i64 y)).set (i * 3 + 2) (.slice (A i) (prb ps i).2.2.length (C i))) = ((flat3 (headsQ A C ps)).set (i * 3) (.int .i64 x)).set (i * 3 + 1) (.int .i64 y) := by
      apply list_set_id
      rw [List.getElem?_set_ne (by omega), List.getElem?_set_ne (by omega), f2]
      rfl
    rw [e2]
    exact hs
  · have hr' : r < ps.length := by simpa using hr
    obtain ⟨p1, p2⟩ := h5 r hr'
    have e : (prb (ps.set i (x, y, (prb ps i).2.2)) r).2.2 = (prb ps r).2.2 := by
      by_cases hri : r = i
      · subst hri; rw [prb_set_same hr']
      · rw [prb_set_other hri]
    rw [e]
    exact ⟨p1.off hmg (fun z hz => by have := (p2 z hz).1 _ rfl; simp only at this; omega), fun z hz => ⟨(p2 z hz).1, fun s hs => (p2 z hz).2 s (by simpa using hs)⟩⟩
/-- Path i alone: what turns it turns nothing else. -/
theorem OwnQ.inner {w : World} {lo hi : Nat} {a : Option Addr} {len cap : Nat} {ps : List Prb} (h : OwnQ w lo hi a len cap ps) (i : Nat) (hi' : i < len) (hlo : lo ≤ w.heap.size) :
    ∃ g ai ci l2 h2, a = some ⟨g, 0, none⟩ ∧ w.cell? ⟨g, i * 3 + 2, none⟩ = some (.slice ai (prb ps i).2.2.length ci) ∧ Own .i64 3 w l2 h2 ai (prb ps i).2.2.length ci (prb ps i).2.2 ∧
      ∀ w' zs', Own .i64 3 w' l2 h2 ai (prb ps i).2.2.length ci zs' → Moved l2 h2 w w' → OwnQ w' lo hi a len cap (ps.set i ((prb ps i).1, (prb ps i).2.1, zs')) ∧ Moved lo hi w w' := by
  obtain ⟨h1, hf, h2, h3, A, C, h4, h5⟩ := h
  rcases ownsRow3_spot h4 with ⟨_, h0⟩ | ⟨g, rfl, hlg, hg, _, _, hc, _⟩
  · omega
  obtain ⟨o1, o2⟩ := h5 i (by omega)
  have hgb := h3 _ rfl
  simp only at hgb
  obtain ⟨f0, f1, f2⟩ := flat3_at _ i _ (headsQ_at (A := A) (C := C) (ps := ps) (r := i) (by omega))
  have hcell : w.cell? ⟨g, i * 3 + 2, none⟩ = some (.slice (A i) (prb ps i).2.2.length (C i)) := by rw [hc _ (by omega), f2]; rfl
  have main : ∀ l2 h2', lo ≤ l2 → h2' ≤ hi ∨ h2' ≤ l2 → ¬ (l2 ≤ g ∧ g < h2') → (∀ s, s < ps.length → s ≠ i → ∀ y, A s = some y → ¬ (l2 ≤ y.block ∧ y.block < h2')) →
      (∀ x, A i = some x → lo ≤ x.block ∧ x.block < hi) →
      ∀ w' zs', Own .i64 3 w' l2 h2' (A i) (prb ps i).2.2.length (C i) zs' → Moved l2 h2' w w' → OwnQ w' lo hi (some ⟨g, 0, none⟩) len cap (ps.set i ((prb ps i).1, (prb ps i).2.1, zs')) ∧ Moved lo hi w w' := by
    intro l2 h2' hl2 hh2 hng hoff hin w' zs' ho' hm'
    have hlz : zs'.length = (prb ps i).2.2.length := ho'.1
    refine ⟨⟨by simpa using h1, fit_set hf (hf (prb ps i) (prb_mem (ps := ps) (r := i) (by omega))), Nat.le_trans h2 hm'.size, h3, A, C, ?_, ?_⟩, ?_⟩
    · have e : headsQ A C (ps.set i ((prb ps i).1, (prb ps i).2.1, zs')) = headsQ A C ps := by
        rw [headQ_eq (q := ((prb ps i).1, (prb ps i).2.1, zs')) (i := i) hlz (by omega)]
        exact list_set_id _ _ _ (headsQ_at (A := A) (C := C) (ps := ps) (r := i) (by omega))
      rw [e]
      exact ownsRow3_kept h4 hm' (fun x hx => by cases hx; exact hng)
    · intro r hr
      have hr' : r < ps.length := by simpa using hr
      by_cases hri : r = i
      · subst hri
        rw [prb_set_same hr']
        simp only
        rw [hlz]
        refine ⟨?_, fun x hx => ⟨(o2 x hx).1, fun s hs => (o2 x hx).2 s (by simpa using hs)⟩⟩
        obtain ⟨g1, g2, _, g4, _⟩ := ho'
        exact ⟨g1, g2, Nat.le_trans h2 hm'.size, ownsRow_wide g4 hl2, hin⟩
      · rw [prb_set_other hri]
        obtain ⟨p1, p2⟩ := h5 r hr'
        exact ⟨p1.off hm' (fun x hx => hoff r hr' hri x hx), fun x hx => ⟨(p2 x hx).1, fun s hs => (p2 x hx).2 s (by simpa using hs)⟩⟩
    · refine ⟨hm'.os, hm'.tape, hm'.output, hm'.size, fun k hk hne => hm'.block k hk (by omega)⟩
  cases hA : A i with
  | none =>
    refine ⟨g, none, C i, lo, lo, rfl, by rw [hcell, hA], by rw [hA] at o1; exact o1.nil hlo, ?_⟩
    have := main lo lo (Nat.le_refl _) (.inr (Nat.le_refl _)) (by omega) (fun _ _ _ _ _ => by omega) (fun x hx => by rw [hA] at hx; cases hx)
    rw [hA] at this
    exact this
  | some x =>
    have o1' := o1
    rw [hA] at o1'
    obtain ⟨G, hG⟩ : ∃ G, x = ⟨G, 0, none⟩ := by
      rcases o1'.spot with ⟨hx, _⟩ | ⟨G, hx, _⟩
      · cases hx
      · exact ⟨G, Option.some.inj hx⟩
    subst hG
    have hb := o1.2.2.2.2 _ hA
    simp only at hb
    have hq := o2 _ hA
    simp only at hq
    refine ⟨g, some ⟨G, 0, none⟩, C i, G, G + 1, rfl, by rw [hcell, hA], o1'.narrow, ?_⟩
    have := main G (G + 1) hb.1 (.inl (by omega)) (by have := hq.1 _ rfl; simp only at this; omega) (fun s hs hsi y hy => by have := hq.2 s hs hsi y hy; omega) (fun x hx => by rw [hA] at hx; cases hx; exact hb)
    rw [hA] at this
    exact this
end Go.Proofs.Ytjckcggjmcaaoaa
/- Slices of probes: marks, and the look for them. -/
namespace Go.Proofs.Ytjckcggjmcaaoaa
open Go.RowKit
/-- How many numbers the first r probes hold. -/
def totQ (ps : List Prb) (r : Nat) : Nat := 2 * r + tot (pathsOf ps) r
theorem totQ_succ {ps : List Prb} {r : Nat} (h : r < ps.length) : totQ ps (r + 1) = totQ ps r + 2 + (prb ps r).2.2.length := by
  unfold totQ
  simp only [tot]
  rw [pathsOf_row h]
  omega
def markOne (m : Int) (n : Nat) : Prb := (m, m + 1, marksI (m + 2) n)
/-- The first k probes hold the marks from m on. -/
def markedQ (m : Int) (ps : List Prb) (k : Nat) : List Prb := (List.range ps.length).map fun r => if r < k then markOne (m + (totQ ps r : Int)) (prb ps r).2.2.length else prb ps r
theorem markedQ_len (m : Int) (ps : List Prb) (k : Nat) : (markedQ m ps k).length = ps.length := by simp [markedQ]
theorem markedQ_at {m : Int} {ps : List Prb} {k r : Nat} (h : r < ps.length) : prb (markedQ m ps k) r = if r < k then markOne (m + (totQ ps r : Int)) (prb ps r).2.2.length else prb ps r := by
  show ((List.range ps.length).map fun r => if r < k then markOne (m + (totQ ps r : Int)) (prb ps r).2.2.length else prb ps r).getD r (0, 0, []) = _
  rw [List.getD_eq_getElem?_getD, List.getElem?_map, List.getElem?_range h]
  rfl
theorem markedQ_zero (m : Int) (ps : List Prb) : markedQ m ps 0 = ps := by
  apply List.ext_getElem?
  intro i
  by_cases hi : i < ps.length
  · simp [markedQ, prb, List.getD, hi]
  · rw [List.getElem?_eq_none (by rw [markedQ_len]; omega), List.getElem?_eq_none (by omega)]
theorem markedQ_set {m : Int} {ps : List Prb} {k : Nat} (h : k < ps.length) : (markedQ m ps k).set k (markOne (m + (totQ ps k : Int)) (prb ps k).2.2.length) = markedQ m ps (k + 1) := by
  apply List.ext_getElem?
  intro i
  by_cases hi : i < ps.length
  · rw [List.getElem?_set]
    by_cases hik : k = i
    · subst hik
      rw [if_pos rfl, if_pos (by rw [markedQ_len]; exact h)]
      simp [markedQ, h]
    · rw [if_neg hik]
      have e : (i < k) = (i < k + 1) := by rw [eq_iff_iff]; omega
      simp [markedQ, hi, e]
  · rw [List.getElem?_eq_none (by rw [List.length_set, markedQ_len]; omega), List.getElem?_eq_none (by rw [markedQ_len]; omega)]
theorem totQ_le {ps : List Prb} (h : SmallM (pathsOf ps)) {r : Nat} (hr : r < ps.length) : totQ ps r + 2 + (prb ps r).2.2.length ≤ 3145728 ∧ (prb ps r).2.2.length ≤ 1048576 := by
  have h1 := h.row (r := r) (by rw [pathsOf_len]; exact hr)
  rw [pathsOf_row hr] at h1
  unfold SmallM at h
  rw [pathsOf_len] at h
  unfold totQ
  omega
set_option maxRecDepth 20000 in
set_option maxHeartbeats 1600000 in
theorem markQ_any (W : World) (lo hi : Nat) (a : Option Addr) (len cap : Nat) (ps : List Prb) (m : Int) (hsm : SmallM (pathsOf ps)) (hm0 : 0 ≤ m) (hm1 : m ≤ 2305843009213693952) (hlo : lo ≤ W.heap.size) (ho : OwnQ W lo hi a len cap ps) :
    Calls Try.prog 19 #[.slice a len cap, .int .i64 m] W fun e w' => e = .returned (.int .i64 (m + (totQ ps len : Int))) ∧ OwnQ w' lo hi a len cap (markedQ m ps len) ∧ Moved lo hi W w' := by
  have HO0 := Lib.hid ho
  have HL := Lib.hid ho.1
  have HM := Lib.hid hsm
  have hl : len ≤ 1048576 := by unfold SmallM at hsm; rw [pathsOf_len] at hsm; have := ho.1; omega
  clear ho hsm
  go_enter Try.func19, Try.ntmps19
  go_wp2
  go_loopw [1, 5] (fun q i wr => ∃ (k : Nat) (x : Int), k ≤ len ∧ i = .int .i64 k ∧ q = .int .i64 x ∧ x = m + (totQ ps k : Int) ∧ OwnQ wr lo hi a len cap (markedQ m ps k) ∧ Moved lo hi W wr) (fun _ i _ => len - (intOf i).toNat)
  case atStart => exact ⟨0, m, Nat.zero_le _, rfl, rfl, by simp [totQ, tot], by rw [markedQ_zero]; exact HO0.out, Moved.refl _ _ _⟩
  case round =>
    obtain ⟨k, x, hk, rfl, rfl, hx, ho, hb⟩ := hrel
    have HO := Lib.hid ho
    have HB := Lib.hid hb
    have HX := Lib.hid hx
    clear hx
    by_cases hlt : k < len
    · have hkm : k < ps.length := by rw [HL.out]; exact hlt
      have hrow := totQ_le HM.out hkm
      have hsucc := totQ_succ hkm
      have HX0 : Hid (0 ≤ x ∧ x ≤ 3305843009213693952) := Lib.hid (by have := HX.out; omega)
      have hx0 := HX0.out.1
      have hx1 := HX0.out.2
      obtain ⟨g, aj, cj, rfl, hc0, hc1, hc2, hz0, hz1, hends⟩ := ho.ends k hlt
      obtain ⟨ho1, hmv1⟩ := hends x (x + 1) (WalkArith.wf_i64 (by omega)) (WalkArith.wf_i64 (by omega))
      obtain ⟨V, hV⟩ : ∃ V, V = (wr.setCell ⟨g, k * 3, none⟩ (.int .i64 x)).setCell ⟨g, k * 3 + 1, none⟩ (.int .i64 (x + 1)) := ⟨_, rfl⟩
      rw [← hV] at ho1 hmv1
      obtain ⟨g2, ai, ci, l2, h2, hg2, hc, hin, hlens⟩ := ho1.inner k hlt (Nat.le_trans hlo (Nat.le_trans hb.size hmv1.size))
      obtain rfl : g = g2 := by have := Option.some.inj hg2; exact congrArg Addr.block this
      have hq : prb ((markedQ m ps k).set k (x, x + 1, (prb (markedQ m ps k) k).2.2)) k = (x, x + 1, (prb ps k).2.2) := by
        rw [prb_set_same (by rw [markedQ_len]; exact hkm), markedQ_at hkm, if_neg (Nat.lt_irrefl _)]
      rw [hq] at hc hin hlens
      simp only at hc hin hlens
      have HIN := Lib.hid hin
      have HLN := Lib.hid hlens
      have HMV := Lib.hid hmv1
      obtain ⟨n, hn⟩ : ∃ n, n = (prb ps k).2.2.length := ⟨_, rfl⟩
      rw [← hn] at hc
      have hcv : V.cell? ⟨g, k * 3 + 2, none⟩ = wr.cell? ⟨g, k * 3 + 2, none⟩ := by rw [hV]; go_simp
      have hcw := hcv.symm.trans hc
      have hnl : n ≤ 1073741824 := by omega
      have HN := Lib.hid hn
      have HE : Hid (x + 1 + 1 + ((prb ps k).2.2.length : Int) = m + (totQ ps (k + 1) : Int)) := Lib.hid (by have := HX.out; omega)
      have HSET : Hid (((markedQ m ps k).set k (x, x + 1, (prb (markedQ m ps k) k).2.2)).set k (x, x + 1, marksI (x + 1 + 1) (prb ps k).2.2.length) = markedQ m ps (k + 1)) := Lib.hid (by
        rw [List.set_set, ← markedQ_set hkm, ← HX.out]
        unfold markOne
        rw [show x + 2 = x + 1 + 1 by omega])
      clear ho hb hin hlens hrow hsucc hg2 hq ho1 hmv1 hends hc2 hc hcv
      go_wp2_with fail
      rw [← hV]
      clear hV
      go_at_call 20
      rw [HN.out] at hnl
      refine (markI_any _ l2 h2 _ _ _ _ (x + 1 + 1) hnl (by omega) (by omega) HIN.out).mono ?_
      rintro e w2 ⟨rfl, ho2, hm2⟩
      have HF := Lib.hid (HLN.out w2 _ ho2 hm2)
      rw [HE.out]
      clear ho2 hm2 hn hnl hcw
      obtain ⟨y, hy⟩ : ∃ y, y = m + (totQ ps (k + 1) : Int) := ⟨_, rfl⟩
      rw [← hy]
      have HY := Lib.hid hy
      clear hy
      go_wp2
      go_roundw
      case rel =>
        have hf := HF.out
        rw [HSET.out] at hf
        exact ⟨k + 1, y, by omega, by go_num, rfl, HY.out, hf.1, (HB.out.trans HMV.out).trans hf.2⟩
      case measure => simp [intOf]; omega
    · obtain rfl : k = len := by omega
      clear ho hb
      go_wp2
      go_ret
      exact ⟨ret_intV HX.out, HO.out, HB.out⟩
end Go.Proofs.Ytjckcggjmcaaoaa
/- One probe: its marks, and the look for them. -/
namespace Go.Proofs.Ytjckcggjmcaaoaa
open Go.RowKit
end Go.Proofs.Ytjckcggjmcaaoaa
