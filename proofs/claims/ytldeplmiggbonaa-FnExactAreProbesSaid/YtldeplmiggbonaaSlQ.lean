/- Slices of probes: what is seen of one, and what a call owns. A probe: two integers and a slice of integers. -/
import Derived.Test.YtldeplmiggbonaaSlA
namespace Go.Proofs.Ytldeplmiggbonaa
open Go.RowKit
/-- A probe in plain words: from, to, path. -/
abbrev Prb := Int × Int × List Int
def prb (ps : List Prb) (r : Nat) : Prb := ps.getD r (0, 0, [])
theorem prb_set_same {ps : List Prb} {r : Nat} {z : Prb} (h : r < ps.length) : prb (ps.set r z) r = z := by simp [prb, List.getD, h]
theorem prb_set_other {ps : List Prb} {r s : Nat} {z : Prb} (h : s ≠ r) : prb (ps.set r z) s = prb ps s := by simp [prb, List.getD, Ne.symm h]
/-- Three values an element, one behind the other. -/
def flat3 : List (Value × Value × Value) → List Value
  | [] => []
  | p :: r => p.1 :: p.2.1 :: p.2.2 :: flat3 r
theorem flat3_len : ∀ l : List (Value × Value × Value), (flat3 l).length = l.length * 3
  | [] => rfl
  | p :: r => by simp only [flat3, List.length_cons, flat3_len r]; omega
theorem flat3_append : ∀ l m : List (Value × Value × Value), flat3 (l ++ m) = flat3 l ++ flat3 m
  | [], _ => rfl
  | p :: r, m => by simp only [List.cons_append, flat3, flat3_append r m]
theorem flat3_at : ∀ (l : List (Value × Value × Value)) (k : Nat) (p : Value × Value × Value), l[k]? = some p → (flat3 l)[k * 3]? = some p.1 ∧ (flat3 l)[k * 3 + 1]? = some p.2.1 ∧ (flat3 l)[k * 3 + 2]? = some p.2.2
  | [], k, p, h => by simp at h
  | q :: r, 0, p, h => by simp at h; subst h; exact ⟨rfl, rfl, rfl⟩
  | q :: r, k + 1, p, h => by
    have ih := flat3_at r k p (by simpa using h)
    rw [show (k + 1) * 3 = k * 3 + 1 + 1 + 1 by omega, show k * 3 + 1 + 1 + 1 + 1 = (k * 3 + 1) + 1 + 1 + 1 by omega, show k * 3 + 1 + 1 + 1 + 2 = (k * 3 + 2) + 1 + 1 + 1 by omega]
    simp only [flat3, List.getElem?_cons_succ]
    exact ih
theorem flat3_set : ∀ (l : List (Value × Value × Value)) (k : Nat) (p : Value × Value × Value), flat3 (l.set k p) = (((flat3 l).set (k * 3) p.1).set (k * 3 + 1) p.2.1).set (k * 3 + 2) p.2.2
  | [], k, p => by simp [flat3]
  | q :: r, 0, p => rfl
  | q :: r, k + 1, p => by
    rw [List.set_cons_succ, flat3, flat3_set r k p, flat3, show (k + 1) * 3 = k * 3 + 1 + 1 + 1 by omega]
    rfl
def FitQ (ps : List Prb) : Prop := ∀ p ∈ ps, (Lit.int .i64 p.1).wf = true ∧ (Lit.int .i64 p.2.1).wf = true
theorem prb_mem {ps : List Prb} {r : Nat} (h : r < ps.length) : prb ps r ∈ ps := by simp [prb, List.getD, h]
/-- The slice's elements are the probes ps. -/
def SeesQ (w : World) (a : Option Addr) (len : Nat) (ps : List Prb) : Prop :=
  ps.length = len ∧ FitQ ps ∧ ∀ r, r < len → ∃ b off ar cr, a = some ⟨b, off, none⟩ ∧ b < w.heap.size ∧ w.cell? ⟨b, off + r * 3, none⟩ = some (.int .i64 (prb ps r).1) ∧ w.cell? ⟨b, off + r * 3 + 1, none⟩ = some (.int .i64 (prb ps r).2.1) ∧
    w.cell? ⟨b, off + r * 3 + 2, none⟩ = some (.slice ar (prb ps r).2.2.length cr) ∧ (prb ps r).2.2.length ≤ cr ∧ cr ≤ maxLen ∧ Sees .i64 w ar (prb ps r).2.2.length (prb ps r).2.2
theorem SeesQ.below {w w' : World} {a : Option Addr} {len : Nat} {ps : List Prb} (h : SeesQ w a len ps) (hb : Below w.heap.size w w') : SeesQ w' a len ps := by
  refine ⟨h.1, h.2.1, fun r hr => ?_⟩
  obtain ⟨b, off, ar, cr, ha, hlt, c0, c1, c2, hl, hm, hs⟩ := h.2.2 r hr
  exact ⟨b, off, ar, cr, ha, Nat.lt_of_lt_of_le hlt hb.size, (hb.cell (p := ⟨b, off + r * 3, none⟩) hlt).trans c0, (hb.cell (p := ⟨b, off + r * 3 + 1, none⟩) hlt).trans c1, (hb.cell (p := ⟨b, off + r * 3 + 2, none⟩) hlt).trans c2, hl, hm, hs.below hb⟩
/-- What a law's walk is told of an argument. -/
def IsPrbs (w : World) (a : Option Addr) (len : Nat) (ps : List Prb) : Prop := SeesQ w a len ps ∧ len ≤ maxLen
theorem isPrbs_nil (w : World) (a : Option Addr) : IsPrbs w a 0 [] := ⟨⟨rfl, (fun _ h => by cases h), fun r hr => by omega⟩, Nat.zero_le _⟩
def headQ (A : Nat → Option Addr) (C : Nat → Nat) (ps : List Prb) (r : Nat) : Value × Value × Value := (.int .i64 (prb ps r).1, .int .i64 (prb ps r).2.1, .slice (A r) (prb ps r).2.2.length (C r))
def headsQ (A : Nat → Option Addr) (C : Nat → Nat) (ps : List Prb) : List (Value × Value × Value) := (List.range ps.length).map (headQ A C ps)
theorem headsQ_len (A : Nat → Option Addr) (C : Nat → Nat) (ps : List Prb) : (headsQ A C ps).length = ps.length := by simp [headsQ]
theorem headsQ_at {A : Nat → Option Addr} {C : Nat → Nat} {ps : List Prb} {r : Nat} (h : r < ps.length) : (headsQ A C ps)[r]? = some (headQ A C ps r) := by simp [headsQ, h]
/-- Each path is the call's own, in a block of its own. -/
def ApartQ (w : World) (lo hi : Nat) (a : Option Addr) (ps : List Prb) (A : Nat → Option Addr) (C : Nat → Nat) : Prop :=
  ∀ r, r < ps.length → Own .i64 3 w lo hi (A r) (prb ps r).2.2.length (C r) (prb ps r).2.2 ∧
    ∀ x, A r = some x → (∀ y, a = some y → x.block ≠ y.block) ∧ ∀ s, s < ps.length → s ≠ r → ∀ y, A s = some y → x.block ≠ y.block
/-- A slice of probes of the call's own. -/
def OwnQ (w : World) (lo hi : Nat) (a : Option Addr) (len cap : Nat) (ps : List Prb) : Prop :=
  ps.length = len ∧ FitQ ps ∧ hi ≤ w.heap.size ∧ (∀ x, a = some x → lo ≤ x.block ∧ x.block < hi) ∧
    ∃ A C, w.ownsRow lo 28 3 (.slice a len cap) len (flat3 (headsQ A C ps)) ∧ ApartQ w lo hi a ps A C
theorem ownsRow3_spot {w : World} {lo size : Nat} {e : TypeId} {a : Option Addr} {n cap : Nat} {xs : List Value} (h : w.ownsRow lo e size (.slice a n cap) n xs) :
    (a = none ∧ n = 0) ∨ ∃ g, a = some ⟨g, 0, none⟩ ∧ lo ≤ g ∧ g < w.heap.size ∧ n ≤ cap ∧ cap ≤ maxLen ∧ (∀ j, j < n * size → w.cell? ⟨g, j, none⟩ = xs[j]?) ∧ ∀ j, w.frozen? ⟨g, j, none⟩ = false := by
  have h' := h
  rcases h.2 with ⟨hv, hn⟩ | ⟨g, c, cur, hv, hlo, hg, hnc, hcm, hcs, htk⟩
  · simp only [Value.slice.injEq] at hv
    exact .inl ⟨hv.1, hn⟩
  · simp only [Value.slice.injEq, true_and] at hv
    obtain ⟨rfl, rfl⟩ := hv
    exact .inr ⟨g, rfl, hlo, (Array.getElem?_eq_some_iff.1 hg).1, hnc, hcm, fun j hj => h'.cellAt j hj, fun j => h'.frozenAt j⟩
theorem OwnQ.sees {w : World} {lo hi : Nat} {a : Option Addr} {len cap : Nat} {ps : List Prb} (h : OwnQ w lo hi a len cap ps) : SeesQ w a len ps := by
  obtain ⟨h1, hf, h2, h3, A, C, h4, h5⟩ := h
  refine ⟨h1, hf, fun r hr => ?_⟩
  rcases ownsRow3_spot h4 with ⟨_, h0⟩ | ⟨g, rfl, _, hg, _, _, hc, _⟩
  · omega
  · have ho := (h5 r (by omega)).1
    obtain ⟨f0, f1, f2⟩ := flat3_at _ r _ (headsQ_at (A := A) (C := C) (ps := ps) (r := r) (by omega))
    exact ⟨g, 0, A r, C r, rfl, hg, by rw [Nat.zero_add, hc _ (by omega), f0]; rfl, by rw [Nat.zero_add, hc _ (by omega), f1]; rfl, by rw [Nat.zero_add, hc _ (by omega), f2]; rfl, ho.cap, ho.capMax, ho.sees⟩
theorem ownsRow3_kept {w w' : World} {lo lo2 hi2 size : Nat} {e : TypeId} {a : Option Addr} {n cap : Nat} {xs : List Value} (h : w.ownsRow lo e size (.slice a n cap) n xs) (hm : Moved lo2 hi2 w w') (hne : ∀ x, a = some x → ¬ (lo2 ≤ x.block ∧ x.block < hi2)) : w'.ownsRow lo e size (.slice a n cap) n xs := by
  refine ⟨h.1, ?_⟩
  rcases h.2 with h | ⟨g, c, cur, hv, hlo, hg, rest⟩
  · exact .inl h
  · refine .inr ⟨g, c, cur, hv, hlo, ?_, rest⟩
    simp only [Value.slice.injEq, true_and] at hv
    rw [hm.block g (Array.getElem?_eq_some_iff.1 hg).1 (hne _ hv.1)]
    exact hg
theorem ownsRow3_wide {w : World} {lo lo2 size : Nat} {e : TypeId} {a : Option Addr} {n cap : Nat} {xs : List Value} (h : w.ownsRow lo e size (.slice a n cap) n xs) (hl : lo2 ≤ lo) : w.ownsRow lo2 e size (.slice a n cap) n xs := by
  refine ⟨h.1, ?_⟩
  rcases h.2 with h | ⟨g, c, cur, hv, hlo, rest⟩
  · exact .inl h
  · exact .inr ⟨g, c, cur, hv, Nat.le_trans hl hlo, rest⟩
theorem OwnQ.moved {w w' : World} {lo hi lo2 hi2 : Nat} {a : Option Addr} {len cap : Nat} {ps : List Prb} (h : OwnQ w lo hi a len cap ps) (hm : Moved lo2 hi2 w w') (ho : hi ≤ lo2 ∨ hi2 ≤ lo) : OwnQ w' lo hi a len cap ps := by
  obtain ⟨h1, hf, h2, h3, A, C, h4, h5⟩ := h
  refine ⟨h1, hf, Nat.le_trans h2 hm.size, h3, A, C, ownsRow3_kept h4 hm (fun x hx => by have := h3 x hx; omega), fun r hr => ⟨?_, (h5 r hr).2⟩⟩
  exact (h5 r hr).1.moved hm ho
theorem OwnQ.below {w w' : World} {lo hi : Nat} {a : Option Addr} {len cap : Nat} {ps : List Prb} (h : OwnQ w lo hi a len cap ps) (hb : Below w.heap.size w w') : OwnQ w' lo hi a len cap ps :=
  h.moved (Moved.of_below (lo := hi) (hi := hi) hb) (.inl (Nat.le_refl _))
theorem OwnQ.wide {w : World} {lo hi lo2 hi2 : Nat} {a : Option Addr} {len cap : Nat} {ps : List Prb} (h : OwnQ w lo hi a len cap ps) (h1 : lo2 ≤ lo) (h2 : hi ≤ hi2) (h3 : hi2 ≤ w.heap.size) : OwnQ w lo2 hi2 a len cap ps := by
  obtain ⟨g1, gf, _, g3, A, C, g4, g5⟩ := h
  exact ⟨g1, gf, h3, fun x hx => ⟨Nat.le_trans h1 (g3 x hx).1, Nat.lt_of_lt_of_le (g3 x hx).2 h2⟩, A, C, ownsRow3_wide g4 h1, fun r hr => ⟨(g5 r hr).1.wide h1 h2 h3, (g5 r hr).2⟩⟩
theorem OwnQ.room {w : World} {lo hi : Nat} {a : Option Addr} {len cap : Nat} {ps : List Prb} (h : OwnQ w lo hi a len cap ps) : len ≤ cap ∧ cap ≤ maxLen := by
  obtain ⟨_, _, _, _, A, C, h4, _⟩ := h
  rcases h4.2 with ⟨hv, hn⟩ | ⟨g, c, cur, hv, _, _, hnc, hcm, _⟩
  · simp only [Value.slice.injEq] at hv
    rw [hv.2.1, hv.2.2]; exact ⟨Nat.le_refl _, Nat.zero_le _⟩
  · simp only [Value.slice.injEq, true_and] at hv
    rw [hv.2]; exact ⟨hnc, hcm⟩
/-- A new probe is put into place k: three cells. -/
def put3 (w : World) (g k : Nat) (p : Value × Value × Value) : World := ((w.setCell ⟨g, k * 3, none⟩ p.1).setCell ⟨g, k * 3 + 1, none⟩ p.2.1).setCell ⟨g, k * 3 + 2, none⟩ p.2.2
theorem put3_size (w : World) (g k : Nat) (p : Value × Value × Value) : (put3 w g k p).heap.size = w.heap.size := by simp [put3, World.setCell]
theorem put3_grown (w : World) (g k : Nat) (p : Value × Value × Value) : Moved g (g + 1) w (put3 w g k p) := by
  have h : ∀ (v : World) (o : Nat) (x : Value), Moved g (g + 1) v (v.setCell ⟨g, o, none⟩ x) := fun v o x =>
    ⟨rfl, rfl, rfl, by simp [World.setCell], fun j hj hne => Below.heap_setCell v _ x j (by simp; omega)⟩
  exact ((h w _ _).trans (h _ _ _)).trans (h _ _ _)
theorem ownsRow3_put {w : World} {lo g n cap : Nat} {l : List (Value × Value × Value)} (h : w.ownsRow lo 28 3 (.slice (some ⟨g, 0, none⟩) n cap) n (flat3 l)) (k : Nat) (p : Value × Value × Value) : (put3 w g k p).ownsRow lo 28 3 (.slice (some ⟨g, 0, none⟩) n cap) n (flat3 (l.set k p)) := by
  rw [flat3_set]
  exact ((((h.stored (k * 3) p.1).1).stored (k * 3 + 1) p.2.1).1.stored (k * 3 + 2) p.2.2).1
theorem OwnQ.put {w w' : World} {lo hi g : Nat} {len cap : Nat} {ps : List Prb} (h : OwnQ w lo hi (some ⟨g, 0, none⟩) len cap ps) (hlo : lo ≤ w.heap.size) (hb : Below w.heap.size w w') {a' : Option Addr} {c' : Nat} {p : Prb} (hp : (Lit.int .i64 p.1).wf = true ∧ (Lit.int .i64 p.2.1).wf = true)
    (hn : Own .i64 3 w' w.heap.size w'.heap.size a' p.2.2.length c' p.2.2) (k : Nat) (hk : k < len) :
    OwnQ (put3 w' g k (.int .i64 p.1, .int .i64 p.2.1, .slice a' p.2.2.length c')) lo w'.heap.size (some ⟨g, 0, none⟩) len cap (ps.set k p) ∧ Moved lo hi w (put3 w' g k (.int .i64 p.1, .int .i64 p.2.1, .slice a' p.2.2.length c')) := by
  have hM := h.below hb
  obtain ⟨h1, hf, h2, h3, A, C, h4, h5⟩ := hM
  have hg := h3 _ rfl
  simp only at hg
  have hiw : hi ≤ w.heap.size := h.2.2.1
  have hmg := put3_grown w' g k (.int .i64 p.1, .int .i64 p.2.1, .slice a' p.2.2.length c')
  have s1 := ownsRow3_put h4 k (.int .i64 p.1, .int .i64 p.2.1, .slice a' p.2.2.length c')
  refine ⟨⟨by simpa using h1, ?_, by rw [put3_size]; exact Nat.le_refl _, fun x hx => by cases hx; simp; omega, fun r => if r = k then a' else A r, fun r => if r = k then c' else C r, ?_, ?_⟩, ?_⟩
  · intro q hq
    rcases List.mem_or_eq_of_mem_set hq with hm | rfl
    · exact hf q hm
    · exact hp
  · have e : (headsQ A C ps).set k (.int .i64 p.1, .int .i64 p.2.1, .slice a' p.2.2.length c') = headsQ (fun r => if r = k then a' else A r) (fun r => if r = k then c' else C r) (ps.set k p) := by
      apply List.ext_getElem?
      intro i
      by_cases hi : i < ps.length
      · rw [headsQ_at (by simpa using hi), List.getElem?_set]
        by_cases hik : k = i
        · subst hik
          rw [if_pos rfl, if_pos (by rw [headsQ_len]; exact hi)]
          simp only [headQ, prb_set_same hi, if_true]
        · rw [if_neg hik, headsQ_at hi]
          have hik' : ¬ i = k := fun e => hik e.symm
          simp only [headQ, prb_set_other hik', hik', if_false]
      · rw [List.getElem?_eq_none (by rw [List.length_set, headsQ_len]; omega), List.getElem?_eq_none (by rw [headsQ_len, List.length_set]; omega)]
    rw [← e]
    exact s1
  · intro r hr
    have hr' : r < ps.length := by simpa using hr
    by_cases hrk : r = k
    · subst hrk
      simp only [if_true]
      rw [prb_set_same hr']
      refine ⟨(hn.off hmg (fun x hx => ?_)).wide (by omega) (Nat.le_refl _) (by rw [put3_size]; exact Nat.le_refl _), fun x hx => ?_⟩
      · have := hn.2.2.2.2 x hx
        omega
      · have hx1 := hn.2.2.2.2 x hx
        refine ⟨fun y hy => by cases hy; simp only; omega, fun s hs hsr y hy => ?_⟩
        rw [if_neg hsr] at hy
        have := ((h5 s (by simpa using hs)).1).2.2.2.2 y hy
        omega
    · simp only [hrk, if_false]
      rw [prb_set_other hrk]
      obtain ⟨o1, o2⟩ := h5 r hr'
      have hblk : ∀ x, A r = some x → x.block ≠ g := fun x hx => (o2 x hx).1 _ rfl
      refine ⟨(o1.off hmg (fun x hx => by have := hblk x hx; omega)).wide (Nat.le_refl _) (by have := hb.size; omega) (by rw [put3_size]; exact Nat.le_refl _), fun x hx => ⟨(o2 x hx).1, fun s hs hsr y hy => ?_⟩⟩
      by_cases hsk : s = k
      · rw [if_pos hsk] at hy
        have h6 := hn.2.2.2.2 y hy
        have h7 := o1.2.2.2.2 x hx
        omega
      · rw [if_neg hsk] at hy
        exact (o2 x hx).2 s (by simpa using hs) hsr y hy
  · exact (Moved.of_below (lo := lo) (hi := hi) hb).trans ⟨hmg.os, hmg.tape, hmg.output, hmg.size, fun j hj hne => hmg.block j hj (by omega)⟩
end Go.Proofs.Ytldeplmiggbonaa
