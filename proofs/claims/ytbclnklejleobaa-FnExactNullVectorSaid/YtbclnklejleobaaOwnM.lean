/- More on slices of rows of the call's own: two rows change places, the first rows alone, one row held against another. -/
import Derived.Test.YtbclnklejleobaaSlM
namespace Go.Proofs.Ytbclnklejleobaa
open Go.RowKit
/-- Row i alone, and another row d that it is held against. -/
theorem OwnM.inner2 {w : World} {lo hi : Nat} {a : Option Addr} {len cap : Nat} {ms : List (List Int)} (h : OwnM w lo hi a len cap ms) (i : Nat) (hi' : i < len) (d : Nat) (hd : d < len) (hdi : d ≠ i) (hlo : lo ≤ w.heap.size) :
    ∃ g ai ci l2 h2 ad cd, (w.cell? ⟨g, d, none⟩ = some (.slice ad (row ms d).length cd) ∧ Sees .i64 w ad (row ms d).length (row ms d) ∧ ∀ x, ad = some x → ¬ (l2 ≤ x.block ∧ x.block < h2)) ∧ a = some ⟨g, 0, none⟩ ∧ w.cell? ⟨g, i, none⟩ = some (.slice ai (row ms i).length ci) ∧ Own .i64 3 w l2 h2 ai (row ms i).length ci (row ms i) ∧
      ∀ w' zs', Own .i64 3 w' l2 h2 ai (row ms i).length ci zs' → Moved l2 h2 w w' → OwnM w' lo hi a len cap (ms.set i zs') ∧ Moved lo hi w w' := by
  obtain ⟨h1, h2, h3, A, C, h4, h5⟩ := h
  rcases ownsRow_spot h4 with ⟨_, h0⟩ | ⟨g, rfl, hlg, hg, _, _, hc, _⟩
  · omega
  obtain ⟨o1, o2⟩ := h5 i (by omega)
  have hgb := h3 _ rfl
  simp only at hgb
  have main : ∀ l2 h2', lo ≤ l2 → h2' ≤ hi ∨ h2' ≤ l2 → Own .i64 3 w l2 h2' (A i) (row ms i).length (C i) (row ms i) → (∀ y, A i ≠ some y → True) → ¬ (l2 ≤ g ∧ g < h2') → (∀ s, s < ms.length → s ≠ i → ∀ y, A s = some y → ¬ (l2 ≤ y.block ∧ y.block < h2')) →
      (∀ x, A i = some x → lo ≤ x.block ∧ x.block < hi) →
      ∀ w' zs', Own .i64 3 w' l2 h2' (A i) (row ms i).length (C i) zs' → Moved l2 h2' w w' → OwnM w' lo hi (some ⟨g, 0, none⟩) len cap (ms.set i zs') ∧ Moved lo hi w w' := by
    intro l2 h2' hl2 hh2 _ _ hng hoff hin w' zs' ho' hm'
    have hlz : zs'.length = (row ms i).length := ho'.1
    refine ⟨⟨by simpa using h1, Nat.le_trans h2 hm'.size, h3, A, C, ?_, ?_⟩, ?_⟩
    · have e : heads A C (ms.set i zs') = heads A C ms := by
        apply List.ext_getElem?
        intro j
        by_cases hj : j < ms.length
        · rw [heads_at (by simpa using hj), heads_at hj]
          by_cases hji : j = i
          · subst hji; rw [row_set_same hj, hlz]
          · rw [row_set_other hji]
        · rw [List.getElem?_eq_none (by rw [heads_len, List.length_set]; omega), List.getElem?_eq_none (by rw [heads_len]; omega)]
      rw [e]
      exact ownsRow_kept h4 hm' (fun x hx => by cases hx; exact hng)
    · intro r hr
      have hr' : r < ms.length := by simpa using hr
      by_cases hri : r = i
      · subst hri
        rw [row_set_same hr', hlz]
        refine ⟨?_, fun x hx => ⟨(o2 x hx).1, fun s hs => (o2 x hx).2 s (by simpa using hs)⟩⟩
        obtain ⟨g1, g2, _, g4, _⟩ := ho'
        exact ⟨g1, g2, Nat.le_trans h2 hm'.size, ownsRow_wide g4 hl2, hin⟩
      · rw [row_set_other hri]
        obtain ⟨p1, p2⟩ := h5 r hr'
        exact ⟨p1.off hm' (fun x hx => hoff r hr' hri x hx), fun x hx => ⟨(p2 x hx).1, fun s hs => (p2 x hx).2 s (by simpa using hs)⟩⟩
    · refine ⟨hm'.os, hm'.tape, hm'.output, hm'.size, fun k hk hne => hm'.block k hk (by omega)⟩
  cases hA : A i with
  | none =>
    refine ⟨g, none, C i, lo, lo, A d, C d, ⟨by rw [hc d hd, heads_at (by omega)], (h5 d (by omega)).1.sees, fun x _ => by omega⟩, rfl, by rw [hc i hi', heads_at (by omega), hA], by rw [hA] at o1; exact o1.nil hlo, ?_⟩
    have := main lo lo (Nat.le_refl _) (.inr (Nat.le_refl _)) (by rw [hA]; rw [hA] at o1; exact o1.nil hlo) (fun _ _ => trivial) (by omega) (fun _ _ _ _ _ => by omega) (fun x hx => by rw [hA] at hx; cases hx)
    rw [hA] at this
    exact this
  | some x =>
    have o1' := o1
    rw [hA] at o1'
    obtain ⟨G, hG⟩ : ∃ G, x = ⟨G, 0, none⟩ := by
      rcases o1'.spot with ⟨hx, _⟩ | ⟨G, hx, _⟩
      · cases hx
      · exact ⟨G, Option.some.inj hx⟩
    subst hG
    have hb := o1.2.2.2.2 _ hA
    simp only at hb
    have hq := o2 _ hA
    simp only at hq
    refine ⟨g, some ⟨G, 0, none⟩, C i, G, G + 1, A d, C d, ⟨by rw [hc d hd, heads_at (by omega)], (h5 d (by omega)).1.sees, fun y hy => by have := hq.2 d (by omega) hdi y hy; omega⟩, rfl, by rw [hc i hi', heads_at (by omega), hA], o1'.narrow, ?_⟩
    have := main G (G + 1) hb.1 (.inl (by omega)) (by rw [hA]; exact o1'.narrow) (fun _ _ => trivial) (by have := hq.1 _ rfl; simp only at this; omega) (fun s hs hsi y hy => by have := hq.2 s hs hsi y hy; omega) (fun x hx => by rw [hA] at hx; cases hx; exact hb)
    rw [hA] at this
    exact this
/-- Two rows change places. -/
theorem OwnM.swap {w : World} {lo hi g : Nat} {len cap : Nat} {ms : List (List Int)} (h : OwnM w lo hi (some ⟨g, 0, none⟩) len cap ms) {r p : Nat} (hr : r < len) (hp : p < len) {vr vp : Value} (cr : w.cell? ⟨g, r, none⟩ = some vr) (cp : w.cell? ⟨g, p, none⟩ = some vp) :
    OwnM ((w.setCell ⟨g, r, none⟩ vp).setCell ⟨g, p, none⟩ vr) lo hi (some ⟨g, 0, none⟩) len cap ((ms.set r (row ms p)).set p (row ms r)) ∧ Moved lo hi w ((w.setCell ⟨g, r, none⟩ vp).setCell ⟨g, p, none⟩ vr) := by
  obtain ⟨h1, h2, h3, A, C, h4, h5⟩ := h
  have hg := h3 _ rfl
  simp only at hg
  rcases ownsRow_spot h4 with ⟨h0, _⟩ | ⟨g', hg', _, _, _, _, hc, _⟩
  · cases h0
  cases hg'
  rw [hc r hr, heads_at (by omega)] at cr
  rw [hc p hp, heads_at (by omega)] at cp
  obtain rfl := Option.some.inj cr
  obtain rfl := Option.some.inj cp
  obtain ⟨s1, s2⟩ := h4.stored r (.slice (A p) (row ms p).length (C p))
  obtain ⟨s3, s4⟩ := s1.stored p (.slice (A r) (row ms r).length (C r))
  have hm1 : Moved g (g + 1) w (w.setCell ⟨g, r, none⟩ (.slice (A p) (row ms p).length (C p))) := Moved.of_grown s2 (Nat.le_refl _) (Nat.lt_succ_self _)
  have hm2 : Moved g (g + 1) (w.setCell ⟨g, r, none⟩ (.slice (A p) (row ms p).length (C p))) _ := Moved.of_grown s4 (Nat.le_refl _) (Nat.lt_succ_self _)
  have hm := hm1.trans hm2
  let tr : Nat → Nat := fun i => if i = p then r else if i = r then p else i
  have tr_lt : ∀ i, i < ms.length → tr i < ms.length := fun i hi => by simp only [tr]; split <;> (try split) <;> omega
  have tr_inj : ∀ i j, i ≠ j → tr i ≠ tr j := fun i j hij => by simp only [tr]; split <;> split <;> (try split) <;> (try split) <;> omega
  have hrow : ∀ i, i < ms.length → row ((ms.set r (row ms p)).set p (row ms r)) i = row ms (tr i) := fun i hi => by
    simp only [tr]
    by_cases e1 : i = p
    · subst e1; rw [row_set_same (by simpa using hi), if_pos rfl]
    · rw [row_set_other e1, if_neg e1]
      by_cases e2 : i = r
      · subst e2; rw [row_set_same hi, if_pos rfl]
      · rw [row_set_other e2, if_neg e2]
  refine ⟨⟨by simpa using h1, by simpa [World.setCell] using h2, h3, fun i => A (tr i), fun i => C (tr i), ?_, fun i hi => ?_⟩, ⟨hm.os, hm.tape, hm.output, hm.size, fun k hk hne => hm.block k hk (by omega)⟩⟩
  · have e : ((heads A C ms).set r (.slice (A p) (row ms p).length (C p))).set p (.slice (A r) (row ms r).length (C r)) = heads (fun i => A (tr i)) (fun i => C (tr i)) ((ms.set r (row ms p)).set p (row ms r)) := by
      apply List.ext_getElem?
      intro i
      by_cases hi : i < ms.length
      · rw [heads_at (by simpa using hi), hrow i hi, List.getElem?_set]
        simp only [tr]
        by_cases e1 : p = i
        · subst e1
          rw [if_pos rfl, if_pos (by rw [List.length_set, heads_len]; exact hi), if_pos rfl]
        · have e1' : ¬ i = p := fun e => e1 e.symm
          rw [if_neg e1]
          simp only [e1', if_false]
          rw [List.getElem?_set]
          by_cases e2 : r = i
          · subst e2
            rw [if_pos rfl, if_pos (by rw [heads_len]; exact hi)]
            simp only [if_true]
          · have e2' : ¬ i = r := fun e => e2 e.symm
            rw [if_neg e2]
            simp only [e2', if_false]
            exact heads_at hi
      · rw [List.getElem?_eq_none (by rw [List.length_set, List.length_set, heads_len]; omega), List.getElem?_eq_none (by rw [heads_len, List.length_set, List.length_set]; omega)]
    rw [← e]
    exact s3
  · have hi' : i < ms.length := by simpa using hi
    rw [hrow i hi']
    obtain ⟨o1, o2⟩ := h5 (tr i) (tr_lt i hi')
    refine ⟨o1.off hm (fun x hx => by have := (o2 x hx).1 _ rfl; simp only at this; omega), fun x hx => ⟨(o2 x hx).1, fun s hs hsi => (o2 x hx).2 (tr s) (tr_lt s (by simpa using hs)) (tr_inj s i hsi)⟩⟩
/-- The first rows alone. -/
theorem OwnM.front {w : World} {lo hi : Nat} {a : Option Addr} {len cap : Nat} {ms : List (List Int)} (h : OwnM w lo hi a len cap ms) {r : Nat} (hr : r ≤ len) : OwnM w lo hi a r cap (ms.take r) := by
  obtain ⟨h1, h2, h3, A, C, h4, h5⟩ := h
  have hl : (ms.take r).length = r := by rw [List.length_take]; omega
  have hrow : ∀ i, i < r → row (ms.take r) i = row ms i := fun i hi => by
    unfold row List.getD
    rw [List.getElem?_take, if_pos hi]
  refine ⟨hl, h2, h3, A, C, ?_, fun i hi => ?_⟩
  · have e : heads A C (ms.take r) = (heads A C ms).take r := by
      apply List.ext_getElem?
      intro i
      rw [List.getElem?_take]
      by_cases hi : i < r
      · rw [heads_at (by omega), if_pos hi, heads_at (by omega), hrow i hi]
      · rw [if_neg hi, List.getElem?_eq_none (by rw [heads_len]; omega)]
    rw [e]
    refine ⟨by rw [List.length_take, heads_len]; omega, ?_⟩
    rcases h4.2 with ⟨hv, hn⟩ | ⟨g, c, cur, hv, hlo, hg, hnc, hcm, hcs, htk⟩
    · simp only [Value.slice.injEq] at hv
      obtain ⟨rfl, h6, rfl⟩ := hv
      obtain rfl : r = 0 := by omega
      exact .inl ⟨rfl, rfl⟩
    · simp only [Value.slice.injEq, true_and] at hv
      obtain ⟨rfl, rfl⟩ := hv
      refine .inr ⟨g, cap, cur, rfl, hlo, hg, by omega, hcm, hcs, ?_⟩
      rw [← htk, List.take_take]
      congr 1
      omega
  · rw [hl] at hi
    rw [hrow i hi]
    obtain ⟨o1, o2⟩ := h5 i (by omega)
    exact ⟨o1, fun x hx => ⟨(o2 x hx).1, fun s hs hsi => (o2 x hx).2 s (by omega) hsi⟩⟩
end Go.Proofs.Ytbclnklejleobaa
