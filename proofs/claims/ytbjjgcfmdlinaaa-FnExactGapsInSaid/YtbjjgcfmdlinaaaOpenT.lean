/- An argument that is a slice of traces, opened. -/
import Derived.Test.YtbjjgcfmdlinaaaSlA
import Derived.Deep.SlicePairs
import Derived.Deep.DeepHandedRow
namespace Go.Proofs.Ytbjjgcfmdlinaaa
open Go.RowKit
set_option maxHeartbeats 400000 in
theorem isTrs_open {H : Type} {enc : TypeId × Value → H} {P : Program} {w : World} {base : Nat} {held : Bool} {t e q : TypeId} {f0 : Field} {fuel : Nat} {cs : List Value} {x : DataW H × List MemPlace}
    (ht : P.underlying t = some (.slice e)) (he : P.underlying e = some (.struct #[f0])) (ce : P.cellsOf e = 1) (o0 : f0.offset = 0) (c0 : P.cellsOf f0.type = 1) (i0 : P.underlying f0.type = some (.slice q))
    (iq : P.underlying q = some (.int .i64)) (cq : P.cellsOf q = 1) (h : DataW.trod enc P w base (fun _ => true) held fuel t cs = some x) :
    ∃ a len cap ms, cs = [.slice a len cap] ∧ IsRows w a len ms := by
  rcases Go.Deep.open_slice ht h with ⟨hcs, _⟩ | ⟨a, len, cap, m, n, D, Pl, hcs, _, hl, hm, hmm, _, hx⟩
  · exact ⟨none, 0, 0, [], hcs, isRows_nil _ _⟩
  have hlm : len ≤ m := by rw [hmm]; simpa using hl
  have each : ∀ i, i < len → ∃ p : List Int × Option Addr × Nat, w.cell? (a.add i) = some (.slice p.2.1 p.1.length p.2.2) ∧ p.1.length ≤ p.2.2 ∧ p.2.2 ≤ maxLen ∧ Sees .i64 w p.2.1 p.1.length p.1 := by
    intro i hi
    obtain ⟨cs', h1, h2⟩ := hx i (by omega)
    rw [ce] at h1
    obtain ⟨_, hlen, hcell⟩ := World.cells?_some h1
    obtain ⟨xs, k, hk, hxy, _, hxl, hf⟩ := DataW.trod_struct he h2
    match xs, hxl, cs', hlen with
    | [y0], _, [v0], _ =>
      have g0 := hf 0 f0 rfl
      simp [o0, c0] at g0
      have e0 := hcell 0 (by omega)
      rw [Go.Deep.add_add] at e0
      simp at e0
      rcases Go.ChangeShapes.open_ints i0 iq cq g0 with ⟨hc, _⟩ | ⟨x2, l2, k2, zs, hc, _, hl2, hm2, hz, _, hcz, hwz⟩
      · simp at hc
        subst hc
        exact ⟨([], none, 0), e0, Nat.le_refl _, Nat.zero_le _, ⟨rfl, by simp, .inl rfl⟩⟩
      · simp at hc
        subst hc
        simp only [if_true] at hz
        have hi2 : IsRow .i64 w (some x2) l2 k2 zs := .inr ⟨_, rfl, hl2, hm2, by simpa using hz, hcz, hwz⟩
        have hs := row_sees hi2
        have el : (zs.take l2).length = l2 := by simp; omega
        exact ⟨(zs.take l2, some x2, k2), by simp only [el]; exact e0, by simp only [el]; exact hl2, hm2, by simp only [el]; exact hs⟩
  obtain ⟨f, hq⟩ := Go.Deep.choose_lt each
  refine ⟨some a, len, cap, (List.range len).map fun i => (f i).1, hcs, ⟨by simp, fun r hr => ?_⟩, Nat.le_trans hl hm⟩
  obtain ⟨h0, h5, h6, h7⟩ := hq r hr
  have er : row ((List.range len).map fun i => (f i).1) r = (f r).1 := by simp [row, List.getD, hr]
  obtain ⟨b, off, spot⟩ := a
  have hs : spot = none := by simpa [Addr.add] using World.cell?_spot (hq 0 (by omega)).1
  subst hs
  rw [er]
  rw [add_plain] at h0
  exact ⟨b, off, (f r).2.1, (f r).2.2, rfl, World.block_lt_of_cell? _ _ h0, h0, h5, h6, h7⟩
end Go.Proofs.Ytbjjgcfmdlinaaa
