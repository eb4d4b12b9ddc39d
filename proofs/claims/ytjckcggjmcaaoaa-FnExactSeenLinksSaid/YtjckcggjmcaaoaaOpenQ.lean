/- An argument that is a slice of probes, opened. -/
import Derived.Test.YtjckcggjmcaaoaaSlQ
import Derived.Deep.SlicePairs
import Derived.Deep.DeepHandedRow
namespace Go.Proofs.Ytjckcggjmcaaoaa
open Go.RowKit
set_option maxHeartbeats 400000 in
theorem isPrbs_open {H : Type} {enc : TypeId × Value → H} {P : Program} {w : World} {base : Nat} {held : Bool} {t e q : TypeId} {f0 f1 f2 : Field} {fuel : Nat} {cs : List Value} {x : DataW H × List MemPlace}
    (ht : P.underlying t = some (.slice e)) (he : P.underlying e = some (.struct #[f0, f1, f2])) (ce : P.cellsOf e = 3) (o0 : f0.offset = 0) (o1 : f1.offset = 1) (o2 : f2.offset = 2)
    (c0 : P.cellsOf f0.type = 1) (c1 : P.cellsOf f1.type = 1) (c2 : P.cellsOf f2.type = 1) (i0 : P.underlying f0.type = some (.int .i64)) (i1 : P.underlying f1.type = some (.int .i64)) (i2 : P.underlying f2.type = some (.slice q))
    (iq : P.underlying q = some (.int .i64)) (cq : P.cellsOf q = 1) (h : DataW.trod enc P w base (fun _ => true) held fuel t cs = some x) :
    ∃ a len cap ps, cs = [.slice a len cap] ∧ IsPrbs w a len ps := by
  rcases Go.Deep.open_slice ht h with ⟨hcs, _⟩ | ⟨a, len, cap, m, n, D, Pl, hcs, _, hl, hm, hmm, _, hx⟩
  · exact ⟨none, 0, 0, [], hcs, isPrbs_nil _ _⟩
  have hlm : len ≤ m := by rw [hmm]; simpa using hl
  have each : ∀ i, i < len → ∃ p : Prb × Option Addr × Nat, w.cell? (a.add (i * 3)) = some (.int .i64 p.1.1) ∧ w.cell? (a.add (i * 3 + 1)) = some (.int .i64 p.1.2.1) ∧ w.cell? (a.add (i * 3 + 2)) = some (.slice p.2.1 p.1.2.2.length p.2.2) ∧
      (Lit.int .i64 p.1.1).wf = true ∧ (Lit.int .i64 p.1.2.1).wf = true ∧ p.1.2.2.length ≤ p.2.2 ∧ p.2.2 ≤ maxLen ∧ Sees .i64 w p.2.1 p.1.2.2.length p.1.2.2 := by
    intro i hi
    obtain ⟨cs', h1, h2⟩ := hx i (by omega)
    rw [ce] at h1
    obtain ⟨_, hlen, hcell⟩ := World.cells?_some h1
    obtain ⟨xs, k, hk, hxy, _, hxl, hf⟩ := DataW.trod_struct he h2
    match xs, hxl, cs', hlen with
    | [y0, y1, y2], _, [v0, v1, v2], _ =>
      have g0 := hf 0 f0 rfl
      have g1 := hf 1 f1 rfl
      have g2 := hf 2 f2 rfl
      simp [o0, o1, o2, c0, c1, c2] at g0 g1 g2
      have e0 := hcell 0 (by omega)
      have e1 := hcell 1 (by omega)
      have e2 := hcell 2 (by omega)
      rw [Go.Deep.add_add] at e0 e1 e2
      simp at e0 e1 e2
      obtain ⟨p0, d0, _, w0⟩ := DataW.trod_int i0 g0
      obtain ⟨p1, d1, _, w1⟩ := DataW.trod_int i1 g1
      simp only [List.cons.injEq, and_true] at d0 d1
      subst d0
      subst d1
      rcases Go.ChangeShapes.open_ints i2 iq cq g2 with ⟨hc, _⟩ | ⟨x2, l2, k2, zs, hc, _, hl2, hm2, hz, _, hcz, hwz⟩
      · simp at hc
        subst hc
        exact ⟨((p0, p1, []), none, 0), e0, e1, e2, w0, w1, Nat.le_refl _, Nat.zero_le _, ⟨rfl, by simp, .inl rfl⟩⟩
      · simp at hc
        subst hc
        simp only [if_true] at hz
        have hi2 : IsRow .i64 w (some x2) l2 k2 zs := .inr ⟨_, rfl, hl2, hm2, by simpa using hz, hcz, hwz⟩
        have hs := row_sees hi2
        have el : (zs.take l2).length = l2 := by simp; omega
        exact ⟨((p0, p1, zs.take l2), some x2, k2), e0, e1, by simp only [el]; exact e2, w0, w1, by simp only [el]; exact hl2, hm2, by simp only [el]; exact hs⟩
  obtain ⟨f, hq⟩ := Go.Deep.choose_lt each
  refine ⟨some a, len, cap, (List.range len).map fun i => (f i).1, hcs, ⟨by simp, ?_, fun r hr => ?_⟩, Nat.le_trans hl hm⟩
  · intro p hp
    obtain ⟨i, hi, rfl⟩ := List.mem_map.1 hp
    have := hq i (List.mem_range.1 hi)
    exact ⟨this.2.2.2.1, this.2.2.2.2.1⟩
  · obtain ⟨h0, h1, h2, h3, h4, h5, h6, h7⟩ := hq r hr
    have er : prb ((List.range len).map fun i => (f i).1) r = (f r).1 := by simp [prb, List.getD, hr]
    obtain ⟨b, off, spot⟩ := a
    have hs : spot = none := by simpa [Addr.add] using World.cell?_spot (hq 0 (by omega)).1
    subst hs
    rw [er]
    rw [add_plain] at h0 h1 h2
    exact ⟨b, off, (f r).2.1, (f r).2.2, rfl, World.block_lt_of_cell? _ _ h0, h0, by simpa [Nat.add_assoc] using h1, by simpa [Nat.add_assoc] using h2, h5, h6, h7⟩
end Go.Proofs.Ytjckcggjmcaaoaa
