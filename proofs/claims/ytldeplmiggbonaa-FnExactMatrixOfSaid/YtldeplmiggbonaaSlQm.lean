/- Slices of probes: marks. -/
import Derived.Test.YtldeplmiggbonaaSlQe
namespace Go.Proofs.Ytldeplmiggbonaa
open Go.RowKit
theorem headQ_eq {A : Nat → Option Addr} {C : Nat → Nat} {ps : List Prb} {i : Nat} {q : Prb} (hq : q.2.2.length = (prb ps i).2.2.length) (hi : i < ps.length) : headsQ A C (ps.set i q) = (headsQ A C ps).set i (.int .i64 q.1, .int .i64 q.2.1, .slice (A i) (prb ps i).2.2.length (C i)) := by
  apply List.ext_getElem?
  intro j
  by_cases hj : j < ps.length
  · rw [headsQ_at (by simpa using hj), List.getElem?_set]
    by_cases hij : i = j
    · subst hij
      rw [if_pos rfl, if_pos (by rw [headsQ_len]; exact hi)]
      simp only [headQ, prb_set_same hi, hq]
    · rw [if_neg hij, headsQ_at hj]
      simp only [headQ, prb_set_other (Ne.symm hij)]
  · rw [List.getElem?_eq_none (by rw [headsQ_len, List.length_set]; omega), List.getElem?_eq_none (by rw [List.length_set, headsQ_len]; omega)]
theorem fit_set {ps : List Prb} {i : Nat} {q : Prb} (h : FitQ ps) (hq : (Lit.int .i64 q.1).wf = true ∧ (Lit.int .i64 q.2.1).wf = true) : FitQ (ps.set i q) := by
  intro p hp
  rcases List.mem_or_eq_of_mem_set hp with hm | rfl
  · exact h p hm
  · exact hq
theorem list_set_id {α : Type} (l : List α) (k : Nat) (v : α) (h : l[k]? = some v) : l.set k v = l := by
  apply List.ext_getElem?
  intro j
  rw [List.getElem?_set]
  split
  · rename_i e; subst e
    split
    · exact h.symm
    · rename_i hh; rw [List.getElem?_eq_none (by omega)] at h; cases h
  · rfl
/-- Probe i alone: its ends may be turned. -/
theorem OwnQ.ends {w : World} {lo hi : Nat} {a : Option Addr} {len cap : Nat} {ps : List Prb} (h : OwnQ w lo hi a len cap ps) (i : Nat) (hi' : i < len) :
    ∃ g ai ci, a = some ⟨g, 0, none⟩ ∧ w.cell? ⟨g, i * 3, none⟩ = some (.int .i64 (prb ps i).1) ∧ w.cell? ⟨g, i * 3 + 1, none⟩ = some (.int .i64 (prb ps i).2.1) ∧ w.cell? ⟨g, i * 3 + 2, none⟩ = some (.slice ai (prb ps i).2.2.length ci) ∧ w.frozen? ⟨g, i * 3, none⟩ = false ∧ w.frozen? ⟨g, i * 3 + 1, none⟩ = false ∧
      ∀ x y : Int, (Lit.int .i64 x).wf = true → (Lit.int .i64 y).wf = true →
        OwnQ ((w.setCell ⟨g, i * 3, none⟩ (.int .i64 x)).setCell ⟨g, i * 3 + 1, none⟩ (.int .i64 y)) lo hi a len cap (ps.set i (x, y, (prb ps i).2.2)) ∧ Moved lo hi w ((w.setCell ⟨g, i * 3, none⟩ (.int .i64 x)).setCell ⟨g, i * 3 + 1, none⟩ (.int .i64 y)) := by
  obtain ⟨h1, hf, h2, h3, A, C, h4, h5⟩ := h
  rcases ownsRow3_spot h4 with ⟨_, h0⟩ | ⟨g, rfl, hlg, hg, _, _, hc, hz⟩
  · omega
  have hgb := h3 _ rfl
  simp only at hgb
  obtain ⟨f0, f1, f2⟩ := flat3_at _ i _ (headsQ_at (A := A) (C := C) (ps := ps) (r := i) (by omega))
  refine ⟨g, A i, C i, rfl, by rw [hc _ (by omega), f0]; rfl, by rw [hc _ (by omega), f1]; rfl, by rw [hc _ (by omega), f2]; rfl, hz _, hz _, fun x y hx hy => ?_⟩
  have hmv : Moved lo hi w ((w.setCell ⟨g, i * 3, none⟩ (.int .i64 x)).setCell ⟨g, i * 3 + 1, none⟩ (.int .i64 y)) := (moved_set3 _ _ _ _ hgb.1 hgb.2).trans (moved_set3 _ _ _ _ hgb.1 hgb.2)
  have hmg : Moved g (g + 1) w ((w.setCell ⟨g, i * 3, none⟩ (.int .i64 x)).setCell ⟨g, i * 3 + 1, none⟩ (.int .i64 y)) := (moved_set3 _ _ _ _ (Nat.le_refl _) (by omega)).trans (moved_set3 _ _ _ _ (Nat.le_refl _) (by omega))
  refine ⟨⟨by simpa using h1, fit_set hf ⟨hx, hy⟩, Nat.le_trans h2 hmv.size, h3, A, C, ?_, fun r hr => ?_⟩, hmv⟩
  · rw [headQ_eq (q := (x, y, (prb ps i).2.2)) (i := i) rfl (by omega), flat3_set]
    have hs := ((h4.stored (i * 3) (.int .i64 x)).1.stored (i * 3 + 1) (.int .i64 y)).1
    have e2 : ((((flat3 (headsQ A C ps)).set (i * 3) (.int .i64 x)).set (i * 3 + 1) (.int .i64 y)).set (i * 3 + 2) (.slice (A i) (prb ps i).2.2.length (C i))) = ((flat3 (headsQ A C ps)).set (i * 3) (.int .i64 x)).set (i * 3 + 1) (.int .i64 y) := by
      apply list_set_id
      rw [List.getElem?_set_ne (by omega), List.getElem?_set_ne (by omega), f2]
      rfl
    rw [e2]
    exact hs
  · have hr' : r < ps.length := by simpa using hr
    obtain ⟨p1, p2⟩ := h5 r hr'
    have e : (prb (ps.set i (x, y, (prb ps i).2.2)) r).2.2 = (prb ps r).2.2 := by
      by_cases hri : r = i
      · subst hri; rw [prb_set_same hr']
      · rw [prb_set_other hri]
    rw [e]
    exact ⟨p1.off hmg (fun z hz => by have := (p2 z hz).1 _ rfl; simp only at this; omega), fun z hz => ⟨(p2 z hz).1, fun s hs => (p2 z hz).2 s (by simpa using hs)⟩⟩
/-- Path i alone: what turns it turns nothing else. -/
theorem OwnQ.inner {w : World} {lo hi : Nat} {a : Option Addr} {len cap : Nat} {ps : List Prb} (h : OwnQ w lo hi a len cap ps) (i : Nat) (hi' : i < len) (hlo : lo ≤ w.heap.size) :
    ∃ g ai ci l2 h2, a = some ⟨g, 0, none⟩ ∧ w.cell? ⟨g, i * 3 + 2, none⟩ = some (.slice ai (prb ps i).2.2.length ci) ∧ Own .i64 3 w l2 h2 ai (prb ps i).2.2.length ci (prb ps i).2.2 ∧
      ∀ w' zs', Own .i64 3 w' l2 h2 ai (prb ps i).2.2.length ci zs' → Moved l2 h2 w w' → OwnQ w' lo hi a len cap (ps.set i ((prb ps i).1, (prb ps i).2.1, zs')) ∧ Moved lo hi w w' := by
  obtain ⟨h1, hf, h2, h3, A, C, h4, h5⟩ := h
  rcases ownsRow3_spot h4 with ⟨_, h0⟩ | ⟨g, rfl, hlg, hg, _, _, hc, _⟩
  · omega
  obtain ⟨o1, o2⟩ := h5 i (by omega)
  have hgb := h3 _ rfl
  simp only at hgb
  obtain ⟨f0, f1, f2⟩ := flat3_at _ i _ (headsQ_at (A := A) (C := C) (ps := ps) (r := i) (by omega))
  have hcell : w.cell? ⟨g, i * 3 + 2, none⟩ = some (.slice (A i) (prb ps i).2.2.length (C i)) := by rw [hc _ (by omega), f2]; rfl
  have main : ∀ l2 h2', lo ≤ l2 → h2' ≤ hi ∨ h2' ≤ l2 → ¬ (l2 ≤ g ∧ g < h2') → (∀ s, s < ps.length → s ≠ i → ∀ y, A s = some y → ¬ (l2 ≤ y.block ∧ y.block < h2')) →
      (∀ x, A i = some x → lo ≤ x.block ∧ x.block < hi) →
      ∀ w' zs', Own .i64 3 w' l2 h2' (A i) (prb ps i).2.2.length (C i) zs' → Moved l2 h2' w w' → OwnQ w' lo hi (some ⟨g, 0, none⟩) len cap (ps.set i ((prb ps i).1, (prb ps i).2.1, zs')) ∧ Moved lo hi w w' := by
    intro l2 h2' hl2 hh2 hng hoff hin w' zs' ho' hm'
    have hlz : zs'.length = (prb ps i).2.2.length := ho'.1
    refine ⟨⟨by simpa using h1, fit_set hf (hf (prb ps i) (prb_mem (ps := ps) (r := i) (by omega))), Nat.le_trans h2 hm'.size, h3, A, C, ?_, ?_⟩, ?_⟩
    · have e : headsQ A C (ps.set i ((prb ps i).1, (prb ps i).2.1, zs')) = headsQ A C ps := by
        rw [headQ_eq (q := ((prb ps i).1, (prb ps i).2.1, zs')) (i := i) hlz (by omega)]
        exact list_set_id _ _ _ (headsQ_at (A := A) (C := C) (ps := ps) (r := i) (by omega))
      rw [e]
      exact ownsRow3_kept h4 hm' (fun x hx => by cases hx; exact hng)
    · intro r hr
      have hr' : r < ps.length := by simpa using hr
      by_cases hri : r = i
      · subst hri
        rw [prb_set_same hr']
        simp only
        rw [hlz]
        refine ⟨?_, fun x hx => ⟨(o2 x hx).1, fun s hs => (o2 x hx).2 s (by simpa using hs)⟩⟩
        obtain ⟨g1, g2, _, g4, _⟩ := ho'
        exact ⟨g1, g2, Nat.le_trans h2 hm'.size, ownsRow_wide g4 hl2, hin⟩
      · rw [prb_set_other hri]
        obtain ⟨p1, p2⟩ := h5 r hr'
        exact ⟨p1.off hm' (fun x hx => hoff r hr' hri x hx), fun x hx => ⟨(p2 x hx).1, fun s hs => (p2 x hx).2 s (by simpa using hs)⟩⟩
    · refine ⟨hm'.os, hm'.tape, hm'.output, hm'.size, fun k hk hne => hm'.block k hk (by omega)⟩
  cases hA : A i with
  | none =>
    refine ⟨g, none, C i, lo, lo, rfl, by rw [hcell, hA], by rw [hA] at o1; exact o1.nil hlo, ?_⟩
    have := main lo lo (Nat.le_refl _) (.inr (Nat.le_refl _)) (by omega) (fun _ _ _ _ _ => by omega) (fun x hx => by rw [hA] at hx; cases hx)
    rw [hA] at this
    exact this
  | some x =>
    have o1' := o1
    rw [hA] at o1'
    obtain ⟨G, hG⟩ : ∃ G, x = ⟨G, 0, none⟩ := by
      rcases o1'.spot with ⟨hx, _⟩ | ⟨G, hx, _⟩
      · cases hx
      · exact ⟨G, Option.some.inj hx⟩
    subst hG
    have hb := o1.2.2.2.2 _ hA
    simp only at hb
    have hq := o2 _ hA
    simp only at hq
    refine ⟨g, some ⟨G, 0, none⟩, C i, G, G + 1, rfl, by rw [hcell, hA], o1'.narrow, ?_⟩
    have := main G (G + 1) hb.1 (.inl (by omega)) (by have := hq.1 _ rfl; simp only at this; omega) (fun s hs hsi y hy => by have := hq.2 s hs hsi y hy; omega) (fun x hx => by rw [hA] at hx; cases hx; exact hb)
    rw [hA] at this
    exact this
end Go.Proofs.Ytldeplmiggbonaa
