/- The program's routes from one node. -/
import Derived.Test.YtjckcggjmcaaoaaRing
import Derived.Test.YtjckcggjmcaaoaaConcat
namespace Go.Proofs.Ytjckcggjmcaaoaa
open Go.RowKit
theorem Met.short {n : Nat} {ls : List (Int × Int)} {a : Int} {M : List (Int × List Int)} {j k : Nat} (h : Met n ls a M j k) : ∀ (i : Nat) (x : Int × List Int), M[i]? = some x → x.2.length ≤ i := by
  intro i
  induction i using Nat.strongRecOn with
  | _ i ih =>
    intro x hx
    rcases h.form x (List.mem_of_getElem? hx) with e | ⟨c, l, y, _, hy, e⟩
    · rw [e]; exact Nat.zero_le _
    · have hc : c < i := by
        rcases Nat.lt_trichotomy c i with g | g | g
        · exact g
        · subst g
          rw [hx] at hy
          cases hy
          have := congrArg List.length e
          simp at this
        · have h1 := h.sorted i c x y g hx hy
          rw [e] at h1
          have h2 := slt_trans h1 (show SLt y.2 (y.2 ++ [(l : Int)]) from .inl (by simp))
          rw [← e] at h1
          exact (slt_irrefl (by rw [e] at h1; exact slt_trans (show SLt y.2 (y.2 ++ [(l : Int)]) from .inl (by simp)) h1)).elim
      have := ih c hc y hy
      rw [e]
      simp
      omega
/-- The slice v holds the route z, in memory of the call's own, apart from the map and the queue. -/
def RouteAt (w : World) (lo b r : Nat) (v : Value) (z : List Int) : Prop := ∃ a l c, v = .slice a l c ∧ Own .i64 3 w lo w.heap.size a l c z ∧ ∀ x, a = some x → x.block ≠ b ∧ x.block ≠ r
theorem RouteAt.below {w w' : World} {lo b r : Nat} {v : Value} {z : List Int} (h : RouteAt w lo b r v z) (hb : Below w.heap.size w w') : RouteAt w' lo b r v z := by
  obtain ⟨a, l, c, e, ho, hn⟩ := h
  exact ⟨a, l, c, e, (ho.below hb).wide (Nat.le_refl _) hb.size (Nat.le_refl _), hn⟩
theorem RouteAt.moved {w w' : World} {lo b r y : Nat} {v : Value} {z : List Int} (h : RouteAt w lo b r v z) (hm : Moved y (y + 1) w w') (hy : y = b ∨ y = r) : RouteAt w' lo b r v z := by
  obtain ⟨a, l, c, e, ho, hn⟩ := h
  refine ⟨a, l, c, e, (ho.off hm (fun x hx => ?_)).wide (Nat.le_refl _) hm.size (Nat.le_refl _), hn⟩
  have := hn x hx
  omega
theorem moved_grown {w w' : World} {g : Nat} (h : w.grownBy w' (some g)) : Moved g (g + 1) w w' := Moved.of_grown h (Nat.le_refl _) (Nat.lt_succ_self _)
/-- The state of the search in memory. -/
structure St (W w : World) (n : Int) (a : Option Addr) (len cap : Nat) (M : List (Int × List Int)) (Q : List Int) (F : Int → Option Value) (r : Nat) : Prop where
  rge : W.heap.size + 3 ≤ r
  net : NetAt w W.heap.size n a len cap
  map : MapI w (W.heap.size + 1) M.length F
  has : ∀ x ∈ M, ∃ v, F x.1 = some v ∧ RouteAt w W.heap.size (W.heap.size + 1) r v x.2
  no : ∀ x, (∀ m ∈ M, m.1 ≠ x) → F x = none
  ring : RingAt w r Q
  bel : Below W.heap.size W w
theorem St.below {W w w' : World} {n : Int} {a : Option Addr} {len cap : Nat} {M : List (Int × List Int)} {Q : List Int} {F : Int → Option Value} {r : Nat} (h : St W w n a len cap M Q F r) (hb : Below w.heap.size w w') : St W w' n a len cap M Q F r :=
  ⟨h.rge, h.net.below hb, h.map.below hb, fun x hx => by obtain ⟨v, h1, h2⟩ := h.has x hx; exact ⟨v, h1, h2.below hb⟩, h.no, h.ring.below hb, below_up h.bel hb (Nat.le_refl _)⟩
/-- The queue turns. -/
theorem St.queue {W w w' : World} {n : Int} {a : Option Addr} {len cap : Nat} {M : List (Int × List Int)} {Q Q' : List Int} {F : Int → Option Value} {r : Nat} (h : St W w n a len cap M Q F r) (hm : Moved r (r + 1) w w') (hr : RingAt w' r Q') : St W w' n a len cap M Q' F r :=
  have hge := h.rge
  ⟨h.rge, h.net.off hm (by omega), h.map.moved hm (by omega), fun x hx => by obtain ⟨v, h1, h2⟩ := h.has x hx; exact ⟨v, h1, h2.moved hm (.inr rfl)⟩, h.no, hr, below_moved h.bel hm (Nat.le_refl _) (by omega)⟩
/-- A new route is told. -/
theorem St.tell {W w w' : World} {n : Int} {a : Option Addr} {len cap : Nat} {M : List (Int × List Int)} {Q : List Int} {F : Int → Option Value} {r : Nat} (h : St W w n a len cap M Q F r) {x : Int} {v : Value} {z : List Int} (hg : w.grownBy w' (some (W.heap.size + 1)))
    (hm : MapI w' (W.heap.size + 1) (M.length + 1) (fun y => if y = x then some v else F y)) (hx : ∀ m ∈ M, m.1 ≠ x) (hv : RouteAt w W.heap.size (W.heap.size + 1) r v z) : St W w' n a len cap (M ++ [(x, z)]) Q (fun y => if y = x then some v else F y) r := by
  have hmv := moved_grown hg
  have hge := h.rge
  refine ⟨h.rge, h.net.off hmv (by omega), by simpa using hm, fun y hy => ?_, fun y hy => ?_, h.ring.grown hg (by omega), below_moved h.bel hmv (Nat.le_refl _) (by omega)⟩
  · rcases List.mem_append.1 hy with hy | hy
    · obtain ⟨u, h1, h2⟩ := h.has y hy
      refine ⟨u, ?_, h2.moved hmv (.inl rfl)⟩
      simp only [hx y hy, if_false]
      exact h1
    · obtain rfl := List.mem_singleton.1 hy
      exact ⟨v, by simp, hv.moved hmv (.inl rfl)⟩
  · have h1 : ¬ y = x := fun e => hy (x, z) (by simp) e.symm
    simp only [h1, if_false]
    exact h.no y fun m hm => hy m (List.mem_append_left _ hm)
def mapSize (w : World) (b : Nat) : Nat := match w.heap[b]? with | some (.map es _) => es.size | _ => 0
def ringCount (w : World) (r : Nat) : Nat := match w.cell? ⟨r, 9, none⟩ with | some (.int _ q) => q.toNat | _ => 0
theorem MapI.size {w : World} {b n : Nat} {F : Int → Option Value} (h : MapI w b n F) : mapSize w b = n := by
  obtain ⟨es, clock, hb, hs, _⟩ := h
  unfold mapSize
  rw [hb]
  exact hs
theorem RingAt.count {w : World} {r : Nat} {Q : List Int} (h : RingAt w r Q) : ringCount w r = Q.length ∧ w.cell? ⟨r, 9, none⟩ = some (.int .i64 Q.length) ∧ Q.length ≤ 8 := by
  obtain ⟨ps, f, h⟩ := h
  refine ⟨?_, h.cc, h.q8⟩
  unfold ringCount
  rw [h.cc]
  simp
theorem zero_row (w : World) : (zeroValue 27).run Try.prog w = .ok (.slice none 0 0) w := by kernel_rfl
theorem ring_new (w : World) (t : TypeId) : RingAt (w.alloc (.cells #[.int .i64 0, .int .i64 0, .int .i64 0, .int .i64 0, .int .i64 0, .int .i64 0, .int .i64 0, .int .i64 0, .int .i64 0, .int .i64 0] t)) w.heap.size [] := by
  refine ⟨List.replicate 8 0, 0, by simp, rfl, fun j hj => ?_, by go_simp, by go_simp, fun j => by go_simp, by omega, by simp, fun i hi => by simp at hi⟩
  have : j = 0 ∨ j = 1 ∨ j = 2 ∨ j = 3 ∨ j = 4 ∨ j = 5 ∨ j = 6 ∨ j = 7 := by omega
  rcases this with rfl | rfl | rfl | rfl | rfl | rfl | rfl | rfl <;> (go_simp <;> rfl)
end Go.Proofs.Ytjckcggjmcaaoaa
