/- MeetAll: plain words, and the model's. -/
import Derived.Test.YthcinjlghhfhmaaSlV
namespace Go.Proofs.Ythcinjlghhfhmaa
open Go.RowKit
def stepV (acc : Option (Int × Int)) (p : Int × Int) : Option (Int × Int) := match acc with
  | none => none
  | some q => if meetOk q.1 q.2 p.1 p.2 = true then some (maxV q.1 p.1, minV q.2 p.2) else none
/-- What the first k intervals have in common. -/
def allK (xs : List (Int × Int)) (k : Nat) : Option (Int × Int) := (xs.take k).foldl stepV (some (-100000, 100000))
def allOk (xs : List (Int × Int)) : Bool := !decide (xs.length = 0) && (allK xs xs.length).isSome
def allLo (xs : List (Int × Int)) : Int := if allOk xs = true then ((allK xs xs.length).getD (0, 0)).1 else 0
def allHi (xs : List (Int × Int)) : Int := if allOk xs = true then ((allK xs xs.length).getD (0, 0)).2 else 0
theorem allK_next {xs : List (Int × Int)} {k : Nat} (h : k < xs.length) : allK xs (k + 1) = stepV (allK xs k) (xs.getD k (0, 0)) := by
  unfold allK
  rw [List.take_add_one, List.foldl_append]
  simp [List.getD, h]
theorem fold_none : ∀ l : List (Int × Int), l.foldl stepV none = none
  | [] => rfl
  | _ :: r => fold_none r
theorem allK_none {xs : List (Int × Int)} {k : Nat} (h : allK xs k = none) : allK xs xs.length = none := by
  unfold allK at h ⊢
  rw [List.take_length]
  conv => lhs; rw [← List.take_append_drop k xs]
  rw [List.foldl_append, h]
  exact fold_none _
theorem all_no {xs : List (Int × Int)} (h : allOk xs = false) : allLo xs = 0 ∧ allHi xs = 0 ∧ allOk xs = false := by simp [allLo, allHi, h]
theorem all_stop {xs : List (Int × Int)} {k : Nat} (h : allK xs k = none) : allLo xs = 0 ∧ allHi xs = 0 ∧ allOk xs = false := by
  refine all_no ?_
  unfold allOk
  rw [allK_none h]
  simp
theorem all_empty {xs : List (Int × Int)} (h : xs.length = 0) : allLo xs = 0 ∧ allHi xs = 0 ∧ allOk xs = false := all_no (by unfold allOk; simp [h])
theorem all_yes {xs : List (Int × Int)} {p q : Int} (h0 : ¬ xs.length = 0) (h : allK xs xs.length = some (p, q)) : allLo xs = p ∧ allHi xs = q ∧ allOk xs = true := by
  have hk : allOk xs = true := by
    unfold allOk
    rw [h, decide_eq_false h0]
    rfl
  simp [allLo, allHi, hk, h]
theorem stepV_yes {p q c d : Int} (h : meetOk p q c d = true) : stepV (some (p, q)) (c, d) = some (meetLo p q c d, meetHi p q c d) := by simp [stepV, h, meetLo, meetHi]
theorem stepV_no {p q c d : Int} (h : meetOk p q c d = false) : stepV (some (p, q)) (c, d) = none := by simp [stepV, h]
def CutAt2 (W0 : World) (N D : Int) (K : Bool) (s5 s6 : Value) (wx : World) : Prop := ∃ g : Nat, s5 = .pointer (some ⟨g, 0, none⟩) ∧ s6 = .bool K ∧ PairAt wx g N D ∧ Below W0.heap.size W0 wx
theorem PairAt.setOther {w : World} {B C o : Nat} {x y : Int} (h : PairAt w B x y) (hne : B ≠ C) (v : Value) : PairAt (w.setCell ⟨C, o, none⟩ v) B x y := by
  refine ⟨(World.cell?_setCell_other _ _ _ _ (by simp)).trans h.c0, (World.cell?_setCell_other _ _ _ _ (by simp)).trans h.c1, ?_, ?_, by simpa [World.setCell] using h.lt⟩
  · rw [World.frozen?_setCell]; exact h.f0
  · rw [World.frozen?_setCell]; exact h.f1
theorem SeesV.spot {w : World} {a : Option Addr} {len : Nat} {xs : List (Int × Int)} (h : SeesV w a len xs) {k : Nat} (hk : k < len) :
    ∃ b off, a = some ⟨b, off, none⟩ ∧ b < w.heap.size ∧ w.cell? ⟨b, off + k * 2, none⟩ = some (.int .i64 (xs.getD k (0, 0)).1) ∧ w.cell? ⟨b, off + k * 2 + 1, none⟩ = some (.int .i64 (xs.getD k (0, 0)).2) := by
  rcases h.2.2 with h0 | ⟨b, off, ha, hb, hc⟩
  · omega
  · exact ⟨b, off, ha, hb, (hc k hk).1, (hc k hk).2⟩
end Go.Proofs.Ythcinjlghhfhmaa
