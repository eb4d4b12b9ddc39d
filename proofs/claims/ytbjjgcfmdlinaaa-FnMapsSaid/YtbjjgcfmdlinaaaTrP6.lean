/- A forest by parents: roots, shortened ways, joined trees: plain words. -/
import Derived.Test.YtbjjgcfmdlinaaaTrC
import Derived.Maps.OwnOps
import Derived.Test.YtbjjgcfmdlinaaaTwP
import Derived.Test.YtbjjgcfmdlinaaaPair
import Derived.Test.YtbjjgcfmdlinaaaSlL
import Derived.Test.YtbjjgcfmdlinaaaNetV
namespace Go.Proofs.Ytbjjgcfmdlinaaa
open Go.RowKit
/-- The root of x, and how far it is. -/
inductive RootIn (G : Int → Option Int) : Int → Int → Nat → Prop
  | top {x : Int} : G x = none → RootIn G x x 0
  | up {x y r : Int} {d : Nat} : G x = some y → RootIn G y r d → RootIn G x r (d + 1)
theorem RootIn.uniq {G : Int → Option Int} {x r : Int} {d : Nat} (h : RootIn G x r d) : ∀ {r2 : Int} {d2 : Nat}, RootIn G x r2 d2 → r = r2 ∧ d = d2 := by
  induction h with
  | top h1 =>
    intro r2 d2 g
    cases g with
    | top _ => exact ⟨rfl, rfl⟩
    | up g1 _ => rw [h1] at g1; cases g1
  | up h1 _ ih =>
    intro r2 d2 g
    cases g with
    | top g1 => rw [h1] at g1; cases g1
    | up g1 g2 =>
      rw [h1] at g1
      cases g1
      obtain ⟨e1, e2⟩ := ih g2
      exact ⟨e1, by rw [e2]⟩
theorem RootIn.root {G : Int → Option Int} {x r : Int} {d : Nat} (h : RootIn G x r d) : G r = none := by
  induction h with
  | top h1 => exact h1
  | up _ _ ih => exact ih
/-- A forest: each node has a root. -/
def Forest (G : Int → Option Int) : Prop := ∀ x, ∃ r d, RootIn G x r d
def Roots (G : Int → Option Int) (x r : Int) : Prop := ∃ d, RootIn G x r d
theorem Roots.uniq {G : Int → Option Int} {x r s : Int} (h : Roots G x r) (g : Roots G x s) : r = s := by
  obtain ⟨d, h⟩ := h
  obtain ⟨e, g⟩ := g
  exact (h.uniq g).1
def setG (G : Int → Option Int) (x z : Int) : Int → Option Int := fun y => if y = x then some z else G y
/-- A shortened way: every node keeps its root, and none comes to lie further from it. -/
theorem halve_root {G : Int → Option Int} {x y z : Int} (h1 : G x = some y) (h2 : G y = some z) : ∀ (d : Nat) {w r : Int}, RootIn G w r d → ∃ e, e ≤ d ∧ RootIn (setG G x z) w r e := by
  intro d
  induction d using Nat.strongRecOn with
  | ind d ih =>
    intro w r h
    cases h with
    | top g1 =>
      refine ⟨0, Nat.le_refl _, .top ?_⟩
      unfold setG
      split
      · rename_i e
        rw [e, h1] at g1
        cases g1
      · exact g1
    | up g1 g2 =>
      rename_i w1 d1
      by_cases hw : w = x
      · subst hw
        rw [h1] at g1
        cases g1
        cases g2 with
        | top g3 => rw [h2] at g3; cases g3
        | up g3 g4 =>
          rename_i z1 d2
          rw [h2] at g3
          cases g3
          obtain ⟨e, he, g5⟩ := ih d2 (by omega) g4
          exact ⟨e + 1, by omega, .up (by unfold setG; rw [if_pos rfl]) g5⟩
      · obtain ⟨e, he, g5⟩ := ih d1 (by omega) g2
        exact ⟨e + 1, by omega, .up (by unfold setG; rw [if_neg hw]; exact g1) g5⟩
theorem halve_forest {G : Int → Option Int} {x y z : Int} (h1 : G x = some y) (h2 : G y = some z) (hF : Forest G) : Forest (setG G x z) := fun w => by
  obtain ⟨r, d, h⟩ := hF w
  obtain ⟨e, _, g⟩ := halve_root h1 h2 d h
  exact ⟨r, e, g⟩
theorem halve_roots {G : Int → Option Int} {x y z : Int} (h1 : G x = some y) (h2 : G y = some z) (hF : Forest G) (w r : Int) : Roots (setG G x z) w r ↔ Roots G w r := by
  constructor
  · intro h
    obtain ⟨s, d, g⟩ := hF w
    obtain ⟨e, _, g2⟩ := halve_root h1 h2 d g
    rw [h.uniq ⟨e, g2⟩]
    exact ⟨d, g⟩
  · rintro ⟨d, h⟩
    obtain ⟨e, _, g⟩ := halve_root h1 h2 d h
    exact ⟨e, g⟩
/-- Two trees are joined: the root a goes below the root b. -/
theorem join_root {G : Int → Option Int} {a b : Int} (ha : G a = none) (hb : G b = none) (hne : a ≠ b) {w r : Int} {d : Nat} (h : RootIn G w r d) : Roots (setG G a b) w (if r = a then b else r) := by
  induction h with
  | top g1 =>
    rename_i w
    by_cases hw : w = a
    · subst hw
      rw [if_pos rfl]
      exact ⟨1, .up (by unfold setG; rw [if_pos rfl]) (.top (by unfold setG; rw [if_neg (fun e => hne e.symm)]; exact hb))⟩
    · rw [if_neg hw]
      exact ⟨0, .top (by unfold setG; rw [if_neg hw]; exact g1)⟩
  | up g1 _ ih =>
    rename_i w w1 r d
    obtain ⟨e, g⟩ := ih
    exact ⟨e + 1, .up (by unfold setG; rw [if_neg (fun e => by rw [e, ha] at g1; cases g1)]; exact g1) g⟩
theorem join_forest {G : Int → Option Int} {a b : Int} (ha : G a = none) (hb : G b = none) (hne : a ≠ b) (hF : Forest G) : Forest (setG G a b) := fun w => by
  obtain ⟨r, d, h⟩ := hF w
  obtain ⟨e, g⟩ := join_root ha hb hne h
  exact ⟨_, e, g⟩
/-- Two nodes have one root. -/
def Joined (G : Int → Option Int) (x y : Int) : Prop := ∃ r, Roots G x r ∧ Roots G y r
theorem Reach.mono {ls ms : List (Int × Int)} (h : ∀ p, p ∈ ls → p ∈ ms) {a x : Int} (hr : Reach ls a x) : Reach ms a x := by
  induction hr with
  | start => exact .start
  | ahead _ h2 ih => exact .ahead ih (h _ h2)
  | back _ h2 ih => exact .back ih (h _ h2)
theorem Reach.trans {ls : List (Int × Int)} {a x y : Int} (h : Reach ls a x) (g : Reach ls x y) : Reach ls a y := by
  induction g with
  | start => exact h
  | ahead _ h2 ih => exact .ahead ih h2
  | back _ h2 ih => exact .back ih h2
theorem Reach.symm {ls : List (Int × Int)} {a x : Int} (h : Reach ls a x) : Reach ls x a := by
  induction h with
  | start => exact .start
  | ahead _ h2 ih => exact (Reach.back .start h2).trans ih
  | back _ h2 ih => exact (Reach.ahead .start h2).trans ih
theorem reach_add {ls : List (Int × Int)} {a b x y : Int} : Reach (ls ++ [(a, b)]) x y ↔ Reach ls x y ∨ (Reach ls x a ∧ Reach ls b y) ∨ (Reach ls x b ∧ Reach ls a y) := by
  constructor
  · intro h
    induction h with
    | start => exact .inl .start
    | ahead _ h2 ih =>
      rcases List.mem_append.1 h2 with h3 | h3
      · rcases ih with i1 | ⟨i1, i2⟩ | ⟨i1, i2⟩
        · exact .inl (.ahead i1 h3)
        · exact .inr (.inl ⟨i1, .ahead i2 h3⟩)
        · exact .inr (.inr ⟨i1, .ahead i2 h3⟩)
      · obtain ⟨rfl, rfl⟩ := Prod.mk.inj (List.mem_singleton.1 h3)
        rcases ih with i1 | ⟨i1, i2⟩ | ⟨i1, i2⟩
        · exact .inr (.inl ⟨i1, .start⟩)
        · exact .inr (.inl ⟨i1, .start⟩)
        · exact .inl i1
    | back _ h2 ih =>
      rcases List.mem_append.1 h2 with h3 | h3
      · rcases ih with i1 | ⟨i1, i2⟩ | ⟨i1, i2⟩
        · exact .inl (.back i1 h3)
        · exact .inr (.inl ⟨i1, .back i2 h3⟩)
        · exact .inr (.inr ⟨i1, .back i2 h3⟩)
      · obtain ⟨rfl, rfl⟩ := Prod.mk.inj (List.mem_singleton.1 h3)
        rcases ih with i1 | ⟨i1, i2⟩ | ⟨i1, i2⟩
        · exact .inr (.inr ⟨i1, .start⟩)
        · exact .inl i1
        · exact .inr (.inr ⟨i1, .start⟩)
  · have hm : ∀ p, p ∈ ls → p ∈ ls ++ [(a, b)] := fun p hp => List.mem_append_left _ hp
    have hab : (a, b) ∈ ls ++ [(a, b)] := by simp
    rintro (h | ⟨h1, h2⟩ | ⟨h1, h2⟩)
    · exact h.mono hm
    · exact (Reach.ahead (h1.mono hm) hab).trans (h2.mono hm)
    · exact (Reach.back (h1.mono hm) hab).trans (h2.mono hm)
/-- The forest behind the first i links: as far as they join. -/
structure ForestAt (ls : List (Int × Int)) (i : Nat) (G : Int → Option Int) : Prop where
  forest : Forest G
  joined : ∀ x y, Joined G x y ↔ Reach (ls.take i) x y
  open_ : ∀ j, j < i → ¬ closesAt ls j
theorem forestAt_zero (ls : List (Int × Int)) : ForestAt ls 0 (fun _ => none) := by
  refine ⟨fun x => ⟨x, 0, .top rfl⟩, fun x y => ?_, fun j hj => absurd hj (Nat.not_lt_zero _)⟩
  constructor
  · rintro ⟨r, ⟨d, h⟩, ⟨e, g⟩⟩
    cases h with
    | top _ =>
      cases g with
      | top _ => exact .start
      | up g1 _ => cases g1
    | up h1 _ => cases h1
  · intro h
    rw [List.take_zero] at h
    cases h with
    | start => exact ⟨x, ⟨0, .top rfl⟩, ⟨0, .top rfl⟩⟩
    | ahead _ h2 => cases h2
    | back _ h2 => cases h2
theorem ForestAt.same {ls : List (Int × Int)} {i : Nat} {G H : Int → Option Int} (h : ForestAt ls i G) (hF : Forest H) (hr : ∀ w r, Roots H w r ↔ Roots G w r) : ForestAt ls i H :=
  ⟨hF, fun x y => by
    rw [← h.joined]
    unfold Joined
    constructor
    · rintro ⟨r, h1, h2⟩; exact ⟨r, (hr _ _).1 h1, (hr _ _).1 h2⟩
    · rintro ⟨r, h1, h2⟩; exact ⟨r, (hr _ _).2 h1, (hr _ _).2 h2⟩, h.open_⟩
/-- The ends have one root: a circle is closed. -/
theorem ForestAt.closes {ls : List (Int × Int)} {i : Nat} {G : Int → Option Int} (h : ForestAt ls i G) {r : Int} (h1 : Roots G (ls.getD i (0, 0)).1 r) (h2 : Roots G (ls.getD i (0, 0)).2 r) : closesAt ls i := (h.joined _ _).1 ⟨r, h1, h2⟩
/-- The ends have two roots: the one goes below the other. -/
theorem ForestAt.step {ls : List (Int × Int)} {i : Nat} {G : Int → Option Int} (h : ForestAt ls i G) (hi : i < ls.length) {a b r s : Int} (he : ls.getD i (0, 0) = (a, b)) (h1 : Roots G a r) (h2 : Roots G b s) (hne : r ≠ s) : ForestAt ls (i + 1) (setG G r s) := by
  have hr : G r = none := by obtain ⟨d, h1⟩ := h1; exact h1.root
  have hs : G s = none := by obtain ⟨d, h2⟩ := h2; exact h2.root
  have hF := join_forest hr hs hne h.forest
  have htk : ls.take (i + 1) = ls.take i ++ [(a, b)] := by
    rw [List.take_add_one]
    congr 1
    rw [← he]
    simp [List.getD, hi]
  have key : ∀ w q, Roots G w q → Roots (setG G r s) w (if q = r then s else q) := fun w q ⟨d, hq⟩ => join_root hr hs hne hq
  refine ⟨hF, fun x y => ?_, fun j hj => ?_⟩
  · rw [htk, reach_add, ← h.joined, ← h.joined, ← h.joined, ← h.joined, ← h.joined]
    obtain ⟨qx, dx, gx⟩ := h.forest x
    obtain ⟨qy, dy, gy⟩ := h.forest y
    have kx := key x qx ⟨dx, gx⟩
    have ky := key y qy ⟨dy, gy⟩
    have jxy : Joined G x y ↔ qx = qy := ⟨fun ⟨q, g1, g2⟩ => (Roots.uniq ⟨dx, gx⟩ g1).trans (Roots.uniq ⟨dy, gy⟩ g2).symm, fun e => ⟨qx, ⟨dx, gx⟩, by rw [e]; exact ⟨dy, gy⟩⟩⟩
    have jxa : Joined G x a ↔ qx = r := ⟨fun ⟨q, g1, g2⟩ => (Roots.uniq ⟨dx, gx⟩ g1).trans (h1.uniq g2).symm, fun e => ⟨r, by rw [← e]; exact ⟨dx, gx⟩, h1⟩⟩
    have jxb : Joined G x b ↔ qx = s := ⟨fun ⟨q, g1, g2⟩ => (Roots.uniq ⟨dx, gx⟩ g1).trans (h2.uniq g2).symm, fun e => ⟨s, by rw [← e]; exact ⟨dx, gx⟩, h2⟩⟩
    have jay : Joined G a y ↔ qy = r := ⟨fun ⟨q, g1, g2⟩ => (Roots.uniq ⟨dy, gy⟩ g2).trans (h1.uniq g1).symm, fun e => ⟨r, h1, by rw [← e]; exact ⟨dy, gy⟩⟩⟩
    have jby : Joined G b y ↔ qy = s := ⟨fun ⟨q, g1, g2⟩ => (Roots.uniq ⟨dy, gy⟩ g2).trans (h2.uniq g1).symm, fun e => ⟨s, h2, by rw [← e]; exact ⟨dy, gy⟩⟩⟩
    have jn : Joined (setG G r s) x y ↔ (if qx = r then s else qx) = (if qy = r then s else qy) := ⟨fun ⟨q, g1, g2⟩ => (kx.uniq g1).trans (ky.uniq g2).symm, fun e => ⟨_, kx, by rw [e]; exact ky⟩⟩
    rw [jn, jxy, jxa, jxb, jay, jby]
    by_cases e1 : qx = r
    · rw [if_pos e1]
      by_cases e2 : qy = r
      · rw [if_pos e2]
        exact ⟨fun _ => .inl (e1.trans e2.symm), fun _ => rfl⟩
      · rw [if_neg e2]
        constructor
        · intro e; exact .inr (.inl ⟨e1, e.symm⟩)
        · rintro (e | ⟨_, e⟩ | ⟨e, _⟩)
          · exact absurd (e.symm.trans e1) e2
          · exact e.symm
          · exact absurd (e1.symm.trans e) hne
    · rw [if_neg e1]
      by_cases e2 : qy = r
      · rw [if_pos e2]
        constructor
        · intro e; exact .inr (.inr ⟨e, e2⟩)
        · rintro (e | ⟨e, _⟩ | ⟨e, _⟩)
          · exact absurd (e.trans e2) e1
          · exact absurd e e1
          · exact e
      · rw [if_neg e2]
        constructor
        · exact .inl
        · rintro (e | ⟨e, _⟩ | ⟨_, e⟩)
          · exact e
          · exact absurd e e1
          · exact absurd e e2
  · rcases Nat.lt_or_eq_of_le (Nat.lt_succ_iff.1 hj) with h3 | h3
    · exact h.open_ j h3
    · subst h3
      intro hc
      unfold closesAt at hc
      rw [he] at hc
      obtain ⟨q, g1, g2⟩ := (h.joined _ _).2 hc
      exact hne ((h1.uniq g1).trans (h2.uniq g2).symm)
end Go.Proofs.Ytbjjgcfmdlinaaa
/- A map of the call's own from integers to integers. -/
namespace Go.Proofs.Ytbjjgcfmdlinaaa
open Go.RowKit Go.Maps Go.ChangeMaps Go.MapKept
def MapZ (w : World) (b : Nat) (G : Int → Option Int) : Prop :=
  ∃ es clock, w.heap[b]? = some (.map es clock) ∧ Stamped es clock ∧ (∀ e ∈ es.toList, ∃ x y, e.key = .int .i64 x ∧ (Lit.int .i64 x).wf = true ∧ (Lit.int .i64 y).wf = true ∧ e.val = .int .i64 y ∧ G x = some y) ∧ ∀ x y, G x = some y → ∃ e ∈ es.toList, e.key = .int .i64 x
theorem mapZ_made (w : World) : MapZ (w.alloc (.map #[] 0)) w.heap.size (fun _ => none) := ⟨#[], 0, (MapKept.heap_alloc w _).1, stamped_empty 0, by simp, fun _ _ h => by cases h⟩
theorem MapZ.lt {w : World} {b : Nat} {G : Int → Option Int} (h : MapZ w b G) : b < w.heap.size := by
  obtain ⟨es, clock, hb, _⟩ := h
  exact (Array.getElem?_eq_some_iff.1 hb).1
theorem MapZ.kept {w w' : World} {b : Nat} {G : Int → Option Int} {row : Option Nat} (h : MapZ w b G) (hg : w.grownBy w' row) (hne : some b ≠ row) : MapZ w' b G := by
  have hlt := h.lt
  obtain ⟨es, clock, hb, r⟩ := h
  exact ⟨es, clock, (hg.block b hlt hne).trans hb, r⟩
theorem MapZ.below {w w' : World} {b : Nat} {G : Int → Option Int} (h : MapZ w b G) (hb : Below w.heap.size w w') : MapZ w' b G :=
  h.kept (row := none) ⟨hb.os, hb.tape, hb.output, hb.size, fun k hk _ => hb.block k hk⟩ (by simp)
theorem MapZ.fits {w : World} {b : Nat} {G : Int → Option Int} (h : MapZ w b G) {x y : Int} (hx : G x = some y) : (Lit.int .i64 y).wf = true := by
  obtain ⟨es, clock, _, _, h1, h2⟩ := h
  obtain ⟨e, he, hk⟩ := h2 x y hx
  obtain ⟨x2, y2, k1, _, k3, _, k5⟩ := h1 e he
  rw [hk] at k1
  obtain rfl : x = x2 := by simpa using k1
  rw [hx] at k5
  cases k5
  exact k3
theorem MapZ.uniq {w : World} {b : Nat} {G H : Int → Option Int} (h : MapZ w b G) (g : MapZ w b H) : G = H := by
  obtain ⟨es, clock, hb, _, h1, h2⟩ := h
  obtain ⟨es2, clock2, hb2, _, g1, g2⟩ := g
  rw [hb] at hb2
  obtain ⟨rfl, rfl⟩ : es = es2 ∧ clock = clock2 := by simpa using hb2
  have half : ∀ {A B : Int → Option Int}, (∀ e ∈ es.toList, ∃ x y, e.key = .int .i64 x ∧ (Lit.int .i64 x).wf = true ∧ (Lit.int .i64 y).wf = true ∧ e.val = .int .i64 y ∧ A x = some y) → (∀ e ∈ es.toList, ∃ x y, e.key = .int .i64 x ∧ (Lit.int .i64 x).wf = true ∧ (Lit.int .i64 y).wf = true ∧ e.val = .int .i64 y ∧ B x = some y) → (∀ x y, A x = some y → ∃ e ∈ es.toList, e.key = .int .i64 x) → ∀ x y, A x = some y → B x = some y := by
    intro A B a1 b1 a2 x y hx
    obtain ⟨e, he, hk⟩ := a2 x y hx
    obtain ⟨x2, y2, k1, _, _, k4, k5⟩ := a1 e he
    obtain ⟨x3, y3, m1, _, _, m4, m5⟩ := b1 e he
    rw [hk] at k1 m1
    obtain rfl : x = x2 := by simpa using k1
    obtain rfl : x = x3 := by simpa using m1
    rw [k4] at m4
    obtain rfl : y2 = y3 := by simpa using m4
    rw [hx] at k5
    cases k5
    exact m5
  funext x
  cases hx : G x with
  | some y => exact (half h1 g1 h2 x y hx).symm
  | none =>
    cases hy : H x with
    | none => rfl
    | some y =>
      have := half g1 h1 g2 x y hy
      rw [hx] at this
      cases this
section
variable {P : Program} {k e t : TypeId} {w : World} {b : Nat} {G : Int → Option Int}
theorem MapZ.keys (hk : P.underlying k = some (.int .i64)) {es : Array MapEntry} (h : ∀ e ∈ es.toList, ∃ x y, e.key = .int .i64 x ∧ (Lit.int .i64 x).wf = true ∧ (Lit.int .i64 y).wf = true ∧ e.val = .int .i64 y ∧ G x = some y) : ∀ e ∈ es.toList, ∃ l, keyOf P k e.key = some l := fun e he => by
  obtain ⟨x, y, hx, hw, _⟩ := h e he
  exact ⟨_, by rw [hx]; exact keyOf_int_mk hk hw⟩
/-- 'm[x]', with ok. -/
theorem MapZ.look (h : MapZ w b G) (hk : P.underlying k = some (.int .i64)) (ht : P.underlying t = some (.map k e)) {z : Value} (hz : (zeroValue e).run P w = .ok z w) {x : Int} (hx : (Lit.int .i64 x).wf = true) :
    (Instr.lookup t (.map (some b)) (.int .i64 x) true).run P w = .ok (match G x with | some y => .tuple #[.int .i64 y, .bool true] | none => .tuple #[z, .bool false]) w := by
  obtain ⟨es, clock, hb, _, h1, h2⟩ := h
  have K : Keyed P k := int_keyed hk
  have hkey := keyOf_int_mk hk hx
  rcases K.find w hkey es.toList (MapZ.keys hk h1) with ⟨g1, g2⟩ | ⟨j, e0, g1, g2, g3⟩
  · have hF : G x = none := by
      cases hF : G x with
      | none => rfl
      | some v =>
        obtain ⟨e1, he1, hk1⟩ := h2 x v hF
        exact absurd hk1 (g2 e1 he1)
    rw [hF]
    simp [Instr.lookup, run_underlying ht, MapKept.run_getObj_map hb, K.check w _ hkey, g1, hz, Result.andThen]
  · obtain ⟨x2, y, hy, _, _, hv, hFy⟩ := h1 e0 (List.mem_of_getElem? g2)
    obtain rfl : x = x2 := by rw [g3] at hy; simpa using hy
    rw [hFy]
    simp [Instr.lookup, run_underlying ht, MapKept.run_getObj_map hb, K.check w _ hkey, g1, hv, Result.andThen]
/-- 'm[x] = y'. -/
theorem MapZ.put (h : MapZ w b G) (hk : P.underlying k = some (.int .i64)) (ht : P.underlying t = some (.map k e)) {x y : Int} (hx : (Lit.int .i64 x).wf = true) (hy : (Lit.int .i64 y).wf = true) :
    ∃ w', (Instr.mapUpdate t (.map (some b)) (.int .i64 x) (.int .i64 y)).run P w = .ok () w' ∧ MapZ w' b (setG G x y) ∧ w.grownBy w' (some b) := by
  obtain ⟨es, clock, hb, hst, h1, h2⟩ := h
  have K : Keyed P k := int_keyed hk
  have hkey := keyOf_int_mk hk hx
  have grow : ∀ es' clock', w.grownBy (setBlock w b (.map es' clock')) (some b) := fun es' clock' => ⟨rfl, rfl, rfl, by simp [setBlock], fun i _ hi => heap_setBlock_other hb _ (fun e => hi (by rw [e]))⟩
  rcases K.find w hkey es.toList (MapZ.keys hk h1) with ⟨g1, g2⟩ | ⟨j, e0, g1, g2, g3⟩
  · refine ⟨_, by simp [Instr.mapUpdate, run_underlying ht, MapKept.run_getObj_map hb, K.check w false hkey, g1, MapKept.run_setObj_map _ hb, Result.andThen]; rfl, ⟨es.push ⟨.int .i64 x, .int .i64 y, clock⟩, clock + 1, heap_setBlock_same hb _, stamped_push hst g2, ?_, ?_⟩, grow _ _⟩
    · intro e1 he1
      simp only [Array.toList_push, List.mem_append, List.mem_singleton] at he1
      rcases he1 with he1 | rfl
      · obtain ⟨x2, y2, k1, k2, k3, k4, k5⟩ := h1 e1 he1
        exact ⟨x2, y2, k1, k2, k3, k4, by unfold setG; rw [if_neg (fun e => g2 e1 he1 (by rw [k1, e]))]; exact k5⟩
      · exact ⟨x, y, rfl, hx, hy, rfl, by unfold setG; rw [if_pos rfl]⟩
    · intro z u hu
      simp only [Array.toList_push, List.mem_append, List.mem_singleton]
      by_cases e : z = x
      · exact ⟨_, .inr rfl, by rw [e]⟩
      · unfold setG at hu
        rw [if_neg e] at hu
        obtain ⟨e1, he1, hk1⟩ := h2 z u hu
        exact ⟨e1, .inl he1, hk1⟩
  · have hj : es[j]? = some e0 := by simpa using g2
    have hjl : j < es.toList.length := (List.getElem?_eq_some_iff.1 g2).1
    have hkeyf : ∀ e', es[j]? = some e' → ({ e' with key := .int .i64 x, val := .int .i64 y } : MapEntry).key = e'.key := fun e' he' => by rw [hj] at he'; cases he'; exact g3.symm
    have hlist : (es.modify j (fun e' => { e' with key := .int .i64 x, val := .int .i64 y })).toList = es.toList.set j { e0 with key := .int .i64 x, val := .int .i64 y } := by rw [Array.toList_modify, modify_eq_set _ _ _ _ g2]
    refine ⟨_, by simp [Instr.mapUpdate, run_underlying ht, MapKept.run_getObj_map hb, K.check w false hkey, g1, hj, g3, K.stays w hkey, MapKept.run_setObj_map _ hb, Result.andThen]; rfl, ⟨es.modify j (fun e' => { e' with key := .int .i64 x, val := .int .i64 y }), clock, heap_setBlock_same hb _, stamped_modify hst _ _ (fun _ _ => rfl) (fun e' _ he' => hkeyf e' he'), ?_, ?_⟩, grow _ _⟩
    · intro e1 he1
      rw [hlist] at he1
      obtain ⟨i, hi, ex⟩ := List.getElem_of_mem he1
      rw [List.getElem_set] at ex
      split at ex
      · subst ex
        exact ⟨x, y, rfl, hx, hy, rfl, by unfold setG; rw [if_pos rfl]⟩
      · rename_i hne
        have hi' : i < es.toList.length := by simpa using hi
        obtain ⟨x2, y2, k1, k2, k3, k4, k5⟩ := h1 e1 (ex ▸ List.getElem_mem hi')
        refine ⟨x2, y2, k1, k2, k3, k4, ?_⟩
        unfold setG
        rw [if_neg]
        · exact k5
        · intro e
          have h3 := ((stamped_iff es clock).1 hst).2.2
          have he0 : es.toList[j] = e0 := by simpa [List.getElem?_eq_getElem hjl] using g2
          rcases Nat.lt_or_gt_of_ne hne with h4 | h4
          · exact List.pairwise_iff_getElem.1 h3 j i hjl hi' h4 (by rw [he0, ex, g3, k1, e])
          · exact List.pairwise_iff_getElem.1 h3 i j hi' hjl h4 (by rw [he0, ex, g3, k1, e])
    · intro z u hu
      rw [hlist]
      by_cases e : z = x
      · exact ⟨_, List.mem_set hjl _, by rw [e]⟩
      · unfold setG at hu
        rw [if_neg e] at hu
        obtain ⟨e1, he1, hk1⟩ := h2 z u hu
        obtain ⟨i, hi, ex⟩ := List.getElem_of_mem he1
        refine ⟨e1, ?_, hk1⟩
        have hne : j ≠ i := fun e2 => by
          subst e2
          have he0 : es.toList[j] = e0 := by simpa [List.getElem?_eq_getElem hjl] using g2
          rw [← ex, he0, g3] at hk1
          exact e (by simpa using hk1.symm)
        rw [List.mem_iff_getElem]
        exact ⟨i, by simpa using hi, by rw [List.getElem_set_ne hne]; exact ex⟩
/-- .. at the operation, for the walk. -/
theorem wp_mapPutZ {ops : Array Oper} {rest : List Oper} {o : Oper} {a : Act} {Q : Exit → Act → World → Prop} (hg : o.guard = none) (m key v : Operand) (hop : o.op = Op.mapUpdate t m key v)
    (h : MapZ w b G) (hk : P.underlying k = some (.int .i64)) (ht : P.underlying t = some (.map k e)) {x y : Int} (hm : a.eval m = .map (some b)) (hkey : a.eval key = .int .i64 x) (hx : (Lit.int .i64 x).wf = true) (hv : a.eval v = .int .i64 y) (hy : (Lit.int .i64 y).wf = true)
    (hK : ∀ w', MapZ w' b (setG G x y) → w.grownBy w' (some b) → wpList P ops Q rest (a.put o.dst undef) w') : wpList P ops Q (o :: rest) a w := by
  refine wpList_plain hg fun K' hK' => ?_
  obtain ⟨w', hrun, r1, r2⟩ := h.put hk ht hx hy
  unfold Oper.wp
  simp [execOp, hop, hm, hkey, hv, hrun, Result.andThen]
  exact hK' _ _ (hK w' r1 r2)
end
open Classical in
/-- How far a node lies from its root, read off the world. -/
noncomputable def farAt (b : Nat) (w : World) (v : Value) : Nat :=
  if h : ∃ q : (Int → Option Int) × Int × Int × Nat, MapZ w b q.1 ∧ v = .int .i64 q.2.1 ∧ RootIn q.1 q.2.1 q.2.2.1 q.2.2.2 then (Classical.choose h).2.2.2 else 0
theorem farAt_eq {b : Nat} {w : World} {G : Int → Option Int} {x r : Int} {d : Nat} (hm : MapZ w b G) (h : RootIn G x r d) : farAt b w (.int .i64 x) = d := by
  have hex : ∃ q : (Int → Option Int) × Int × Int × Nat, MapZ w b q.1 ∧ Value.int .i64 x = .int .i64 q.2.1 ∧ RootIn q.1 q.2.1 q.2.2.1 q.2.2.2 := ⟨(G, x, r, d), hm, rfl, h⟩
  unfold farAt
  rw [dif_pos hex]
  obtain ⟨e1, e2, e3⟩ := Classical.choose_spec hex
  have e4 := e1.uniq hm
  have e5 : x = (Classical.choose hex).2.1 := by simpa using e2
  rw [e4, ← e5] at e3
  exact (e3.uniq h).2
end Go.Proofs.Ytbjjgcfmdlinaaa
/- HasCircle, the program's. -/
namespace Go.Proofs.Ytbjjgcfmdlinaaa
open Go.RowKit
theorem zero_int (w : World) : (zeroValue 3).run Try.prog w = .ok (.int .i64 0) w := by kernel_rfl
set_option maxRecDepth 20000 in
set_option maxHeartbeats 1600000 in
theorem rootOf_any (W : World) (b : Nat) (G : Int → Option Int) (x : Int) (hm : MapZ W b G) (hF : Forest G) (hx : (Lit.int .i64 x).wf = true) :
    Calls Try.prog 50 #[.map (some b), .int .i64 x] W fun e w' => ∃ r H, e = .returned (.int .i64 r) ∧ Roots G x r ∧ (∀ w q, Roots H w q ↔ Roots G w q) ∧ Forest H ∧ MapZ w' b H ∧ (Lit.int .i64 r).wf = true ∧ Moved b (b + 1) W w' := by
  obtain ⟨r, d0, hr0⟩ := hF x
  have HR := Lib.hid (show Roots G x r from ⟨d0, hr0⟩)
  have HM := Lib.hid hm
  have HF := Lib.hid hF
  have HX := Lib.hid hx
  clear hm hF hx hr0
  go_enter Try.func50, Try.ntmps50
  go_wp2
  go_loopw [1, 5, 6, 7, 8] (fun v _ _ _ _ wr => ∃ (y : Int) (H : Int → Option Int), v = .int .i64 y ∧ Hid (MapZ wr b H) ∧ Hid (Forest H) ∧ Hid (∀ w q, Roots H w q ↔ Roots G w q) ∧ Hid (Roots H y r) ∧ Hid ((Lit.int .i64 y).wf = true) ∧ Hid (Moved b (b + 1) W wr)) (fun v _ _ _ _ wr => farAt b wr v)
  case atStart => exact ⟨x, G, rfl, HM, HF, Lib.hid (fun _ _ => Iff.rfl), HR, HX, Lib.hid (Moved.refl _ _ _)⟩
  case round =>
    obtain ⟨y, H, rfl, HMR, HFR, HRR, HRY, HYW, HVR⟩ := hrel
    have hlook := HMR.out.look (P := Try.prog) Try.underlying3 Try.underlying77 (zero_int wr) HYW.out
    cases h1 : H y with
    | none =>
      rw [h1] at hlook
      simp only at hlook
      have HE : Hid (y = r) := Lib.hid (Roots.uniq ⟨0, .top h1⟩ HRY.out)
      clear h1
      go_wp2
      go_ret
      exact ⟨r, H, ret_int HE.out, HR.out, HRR.out, HFR.out, HMR.out, by rw [← HE.out]; exact HYW.out, HVR.out⟩
    | some p =>
      rw [h1] at hlook
      simp only at hlook
      have HPW := Lib.hid (HMR.out.fits h1)
      have hlook2 := HMR.out.look (P := Try.prog) Try.underlying3 Try.underlying77 (zero_int wr) HPW.out
      have H1 := Lib.hid h1
      clear h1
      obtain ⟨d, hd⟩ : ∃ d, RootIn H y r (d + 1) := by
        obtain ⟨d, h⟩ := HRY.out
        cases h with
        | top g => rw [H1.out] at g; cases g
        | up g g2 => exact ⟨_, .up g g2⟩
      have hdp : RootIn H p r d := by
        cases hd with
        | up g g2 => rw [H1.out] at g; cases g; exact g2
      have HD := Lib.hid hd
      have HDP := Lib.hid hdp
      clear hd hdp
      cases h2 : H p with
      | none =>
        rw [h2] at hlook2
        simp only at hlook2
        clear h2
        go_wp2
        go_roundw
        case rel => exact ⟨p, H, rfl, HMR, HFR, HRR, Lib.hid ⟨d, HDP.out⟩, HPW, HVR⟩
        case measure => rw [farAt_eq HMR.out HDP.out, farAt_eq HMR.out HD.out]; exact Nat.lt_succ_self _
      | some q =>
        rw [h2] at hlook2
        simp only at hlook2
        have HQW := Lib.hid (HMR.out.fits h2)
        have HF2 := Lib.hid (halve_forest H1.out h2 HFR.out)
        have HR2 := Lib.hid (fun w s => (halve_roots H1.out h2 HFR.out w s).trans (HRR.out w s))
        obtain ⟨d2, hle, hd2⟩ := halve_root H1.out h2 d HDP.out
        have HD2 := Lib.hid hd2
        clear h2 hd2
        go_wp2_with (at_mapUpdate; refine wp_mapPutZ rfl _ _ _ rfl HMR.out Try.underlying3 Try.underlying77 rfl rfl HYW.out rfl HQW.out ?_; intro w1 hM1 hG1; have HM1 := Lib.hid hM1; have HV1 := Lib.hid (HVR.out.trans (Moved.of_grown hG1 (Nat.le_refl _) (Nat.lt_succ_self _))); clear hM1 hG1)
        go_roundw
        case rel => exact ⟨p, setG H y q, rfl, HM1, HF2, HR2, Lib.hid ⟨d2, HD2.out⟩, HPW, HV1⟩
        case measure => rw [farAt_eq HM1.out HD2.out, farAt_eq HMR.out HD.out]; omega
theorem PairAt.away {w w' : World} {B b : Nat} {x y : Int} (h : PairAt w B x y) (hm : Moved b (b + 1) w w') (hne : b ≠ B) : PairAt w' B x y :=
  have hb := hm.block B h.lt (by omega)
  ⟨(World.cell?_of_block (a := ⟨B, 0, none⟩) hb).trans h.c0, (World.cell?_of_block (a := ⟨B, 1, none⟩) hb).trans h.c1, (World.frozen?_of_block (a := ⟨B, 0, none⟩) hb).trans h.f0, (World.frozen?_of_block (a := ⟨B, 1, none⟩) hb).trans h.f1, Nat.lt_of_lt_of_le h.lt hm.size⟩
set_option maxRecDepth 20000 in
set_option maxHeartbeats 1600000 in
theorem circP_any (W : World) (a : Option Addr) (len cap : Nat) (ls : List (Int × Int)) (hl : len ≤ 268435456) (hs : SeesL W a len ls) :
    Calls Try.prog 18 #[.slice a len cap] W fun e w' => e = .returned (.bool (circV ls)) ∧ Below W.heap.size W w' := by
  have HS := Lib.hid hs
  have HL := Lib.hid hs.1
  obtain ⟨v, hv⟩ : ∃ v, v = circV ls := ⟨_, rfl⟩
  rw [← hv]
  have HV := Lib.hid hv
  clear hs hv
  have hmm := @run_makeMap Try.prog
  go_enter Try.func18, Try.ntmps18
  go_wp2
  go_loopw [11, 5, 6, 7] (fun i _ _ _ wr => ∃ (k : Nat) (G : Int → Option Int), k ≤ len ∧ i = .int .i64 k ∧ Hid (ForestAt ls k G) ∧ Hid (MapZ wr W.heap.size G) ∧ Hid (Below W.heap.size W wr)) (fun i _ _ _ _ => len - (intOf i).toNat)
  case atStart => exact ⟨0, _, Nat.zero_le _, rfl, Lib.hid (forestAt_zero ls), Lib.hid (mapZ_made W), Lib.hid ((Below.refl _ _).alloc (Nat.le_refl _) _)⟩
  case round =>
    obtain ⟨k, G, hk, rfl, HFA, HMR, HBR⟩ := hrel
    by_cases hlt : k < len
    · obtain ⟨b2, o2, rfl, hb2, hx0, hx1, hi0, hi1⟩ := (HS.out.below HBR.out).spot hlt
      obtain ⟨s, t, hcd⟩ : ∃ s t, ls.getD k (0, 0) = (s, t) := ⟨_, _, rfl⟩
      have hfit := HS.out.2.1 (ls.getD k (0, 0)) (by simp [List.getD, show k < ls.length by rw [HL.out]; exact hlt])
      rw [hcd] at hx0 hx1 hfit
      have HCD := Lib.hid hcd
      have HSW := Lib.hid hfit.1
      have HTW := Lib.hid hfit.2
      simp only at hx0 hx1
      obtain ⟨U, hU⟩ : ∃ U, U = wr.alloc (.cells #[.int .i64 s, .int .i64 t] 38) := ⟨_, rfl⟩
      have HBU : Hid (Below wr.heap.size wr U) := Lib.hid (by rw [hU]; exact below_new _ _)
      have HPU : Hid (PairAt U wr.heap.size s t) := Lib.hid (by rw [hU]; exact pair_new _ _ _ _)
      have HMU := Lib.hid (HMR.out.below HBU.out)
      have HNE : Hid (W.heap.size ≠ wr.heap.size) := Lib.hid (Nat.ne_of_lt HMR.out.lt)
      have HBW : Hid (Below W.heap.size W U) := Lib.hid (below_up HBR.out HBU.out (Nat.le_refl _))
      have k0 : (0 : Int) ≤ (k : Int) := by omega
      have k1 : (k : Int) < (len : Int) := by omega
      clear hcd hfit hi0 hi1
      go_wp2_with fail
      rw [← hU]
      clear hU
      have HMD := Lib.hid (HMU.out.below (w' := U.drew) (Below.refl _ _).drew)
      have HPD := Lib.hid HPU.out.drew
      have HBD : Hid (Below W.heap.size W U.drew) := Lib.hid HBW.out.drew
      have HFO := Lib.hid HFA.out.forest
      have p0 := HPU.out.c0
      have p1 := HPU.out.c1
      have HLT : wr.heap.size < U.heap.size := HPU.out.lt
      clear hx0 hx1 hb2 hmm
      go_region_held3 (fun w' => w'.cell? ⟨wr.heap.size, 0, none⟩ = some (.int .i64 s) ∧ w'.cell? ⟨wr.heap.size, 1, none⟩ = some (.int .i64 t)) (go_keep) (first
        | (go_at_call 50; with_reducible refine (rootOf_any U.drew _ G s HMD.out HFO.out HSW.out).mono ?_; rintro e w1 ⟨r1, H1, rfl, hr1, hs1, hF1, hm1, hw1, hv1⟩; have HP1 := Lib.hid (HPD.out.away hv1 HNE.out); have u0 := HP1.out.c0; have u1 := HP1.out.c1; have HR1 := Lib.hid hr1; have HS1 := Lib.hid hs1; have HF1 := Lib.hid hF1; have HM1 := Lib.hid hm1; have HW1 := Lib.hid hw1; have HB1 := Lib.hid (below_moved HBD.out hv1 (Nat.le_refl _) (Nat.le_refl _)); clear hr1 hs1 hF1 hm1 hw1 hv1)
        | (go_at_call 50; with_reducible refine (rootOf_any w1 _ H1 t HM1.out HF1.out HTW.out).mono ?_; rintro e w2 ⟨r2, H2, rfl, hr2, hs2, hF2, hm2, hw2, hv2⟩; have HP2 := Lib.hid (HP1.out.away hv2 HNE.out); have u2 := HP2.out.c0; have u3 := HP2.out.c1; have HR2 := Lib.hid hr2; have HS2 := Lib.hid hs2; have HF2 := Lib.hid hF2; have HM2 := Lib.hid hm2; have HW2 := Lib.hid hw2; have HB2 := Lib.hid (below_moved HB1.out hv2 (Nat.le_refl _) (Nat.le_refl _)); clear hr2 hs2 hF2 hm2 hw2 hv2))
      have HRT : Hid (Roots G t r2) := Lib.hid ((HS1.out _ _).1 HR2.out)
      by_cases he : r1 = r2
      · have HE : Hid (v = true) := Lib.hid (by
          rw [HV.out]
          refine circV_yes (i := k) (by rw [HL.out]; exact hlt) (HFA.out.closes (r := r1) ?_ ?_)
          · rw [HCD.out]; exact HR1.out
          · rw [HCD.out, he]; exact HRT.out)
        have heb : (r1 == r2) = true := by simp [he]
        clear he
        go_wp2
        go_ret
        exact ⟨ret_bool HE.out.symm, HB2.out⟩
      · have heb : (r1 == r2) = false := by simp [he]
        have HN : Hid (ForestAt ls (k + 1) (setG H2 r1 r2)) := Lib.hid ((HFA.out.same HF2.out (fun w q => (HS2.out w q).trans (HS1.out w q))).step (by rw [HL.out]; exact hlt) HCD.out ((HS2.out _ _).2 ((HS1.out _ _).2 HR1.out)) ((HS2.out _ _).2 HR2.out) he)
        go_wp2_with (at_mapUpdate; refine wp_mapPutZ rfl _ _ _ rfl HM2.out Try.underlying3 Try.underlying77 rfl rfl HW1.out rfl HW2.out ?_; intro w3 hM3 hG3; have HM3 := Lib.hid hM3; have HB3 := Lib.hid (HB2.out.grown hG3 HB2.out.size (fun k e => by cases e; exact Nat.le_refl _)); clear hM3 hG3)
        go_roundw
        case rel => exact ⟨k + 1, _, by omega, by go_num, HN, HM3, HB3⟩
        case measure => simp [intOf]; omega
    · obtain rfl : k = len := by omega
      have HE : Hid (v = false) := Lib.hid (by rw [HV.out]; exact circV_no (fun i hi => HFA.out.open_ i (by rw [HL.out] at hi; exact hi)))
      go_wp2
      go_ret
      exact ⟨ret_bool HE.out.symm, HBR.out⟩
end Go.Proofs.Ytbjjgcfmdlinaaa
