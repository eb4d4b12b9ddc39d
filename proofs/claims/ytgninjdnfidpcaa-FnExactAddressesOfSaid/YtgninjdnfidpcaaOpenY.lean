/- An argument that is a slice of replies, opened. -/
import Derived.Test.YtgninjdnfidpcaaSlY
import Derived.Deep.SlicePairs
import Derived.Deep.DeepHandedRow
namespace Go.Proofs.Ytgninjdnfidpcaa
open Go.RowKit
set_option maxHeartbeats 400000 in
theorem isReps_open {H : Type} {enc : TypeId × Value → H} {P : Program} {w : World} {base : Nat} {held : Bool} {t e : TypeId} {f0 f1 f2 : Field} {fuel : Nat} {cs : List Value} {x : DataW H × List MemPlace}
    (ht : P.underlying t = some (.slice e)) (he : P.underlying e = some (.struct #[f0, f1, f2])) (ce : P.cellsOf e = 3) (o0 : f0.offset = 0) (o1 : f1.offset = 1) (o2 : f2.offset = 2)
    (c0 : P.cellsOf f0.type = 1) (c1 : P.cellsOf f1.type = 1) (c2 : P.cellsOf f2.type = 1) (i0 : P.underlying f0.type = some (.int .i64)) (i1 : P.underlying f1.type = some (.int .i64)) (i2 : P.underlying f2.type = some (.int .i64))
    (h : DataW.trod enc P w base (fun _ => true) held fuel t cs = some x) :
    ∃ a len cap ps, cs = [.slice a len cap] ∧ IsReps w a len ps := by
  rcases Go.Deep.open_slice ht h with ⟨hcs, _⟩ | ⟨a, len, cap, m, n, D, Pl, hcs, _, hl, hm, hmm, _, hx⟩
  · exact ⟨none, 0, 0, [], hcs, isReps_nil _ _⟩
  have hlm : len ≤ m := by rw [hmm]; simpa using hl
  have each : ∀ i, i < len → ∃ p : Int × Int × Int, w.cell? (a.add (i * 3)) = some (.int .i64 p.1) ∧ w.cell? (a.add (i * 3 + 1)) = some (.int .i64 p.2.1) ∧ w.cell? (a.add (i * 3 + 2)) = some (.int .i64 p.2.2) ∧
      (Lit.int .i64 p.1).wf = true ∧ (Lit.int .i64 p.2.1).wf = true ∧ (Lit.int .i64 p.2.2).wf = true := by
    intro i hi
    obtain ⟨cs', h1, h2⟩ := hx i (by omega)
    rw [ce] at h1
    obtain ⟨_, hlen, hcell⟩ := World.cells?_some h1
    obtain ⟨xs, k, hk, hxy, _, hxl, hf⟩ := DataW.trod_struct he h2
    match xs, hxl, cs', hlen with
    | [y0, y1, y2], _, [v0, v1, v2], _ =>
      have g0 := hf 0 f0 rfl
      have g1 := hf 1 f1 rfl
      have g2 := hf 2 f2 rfl
      simp [o0, o1, o2, c0, c1, c2] at g0 g1 g2
      have e0 := hcell 0 (by omega)
      have e1 := hcell 1 (by omega)
      have e2 := hcell 2 (by omega)
      rw [Go.Deep.add_add] at e0 e1 e2
      simp at e0 e1 e2
      obtain ⟨p0, d0, _, w0⟩ := DataW.trod_int i0 g0
      obtain ⟨p1, d1, _, w1⟩ := DataW.trod_int i1 g1
      obtain ⟨p2, d2, _, w2⟩ := DataW.trod_int i2 g2
      simp only [List.cons.injEq, and_true] at d0 d1 d2
      subst d0
      subst d1
      subst d2
      exact ⟨(p0, p1, p2), e0, e1, e2, w0, w1, w2⟩
  obtain ⟨f, hq⟩ := Go.Deep.choose_lt each
  refine ⟨some a, len, cap, (List.range len).map f, hcs, ⟨by simp, ?_, ?_⟩, Nat.le_trans hl hm⟩
  · intro p hp
    obtain ⟨i, hi, rfl⟩ := List.mem_map.1 hp
    have := hq i (List.mem_range.1 hi)
    exact ⟨this.2.2.2.1, this.2.2.2.2.1, this.2.2.2.2.2⟩
  · rcases Nat.eq_zero_or_pos len with h0 | h0
    · exact .inl h0
    · obtain ⟨b, off, spot⟩ := a
      have hs : spot = none := by simpa [Addr.add] using World.cell?_spot (hq 0 h0).1
      subst hs
      have h1 := (hq 0 h0).1
      rw [add_plain] at h1
      refine .inr ⟨b, off, rfl, World.block_lt_of_cell? w _ h1, fun r hr => ?_⟩
      obtain ⟨g0, g1, g2, _⟩ := hq r hr
      rw [add_plain] at g0 g1 g2
      have er : ((List.range len).map f).getD r (0, 0, 0) = f r := by simp [List.getD, hr]
      rw [er]
      exact ⟨g0, by simpa [Nat.add_assoc] using g1, by simpa [Nat.add_assoc] using g2⟩
end Go.Proofs.Ytgninjdnfidpcaa
