/- ProbesOf: in plain words, and the model's. -/
import Derived.Test.YtjckcggjmcaaoaaPrbP
import Derived.Test.YtjckcggjmcaaoaaAppQ
namespace Go.Proofs.Ytjckcggjmcaaoaa
open Go.RowKit
/-- One pair of hosts: its probe is added, if there is one and there is room. -/
noncomputable def stepQ (n : Int) (ls : List (Int × Int)) (acc : List Prb) (x y : Int) : List Prb := if (probeV n ls x y).2 = true ∧ acc.length < 12 then acc ++ [(probeV n ls x y).1] else acc
/-- One host with some of those behind it. -/
noncomputable def inQ (n : Int) (ls : List (Int × Int)) (x : Int) (l : List Int) (acc : List Prb) : List Prb := l.foldl (fun acc y => stepQ n ls acc x y) acc
/-- The first i hosts, each with all those behind it. -/
noncomputable def outQ (n : Int) (ls : List (Int × Int)) (hs : List Int) : Nat → List Prb
  | 0 => []
  | i + 1 => inQ n ls (hs.getD i 0) (hs.drop (i + 1)) (outQ n ls hs i)
noncomputable def probesV (n : Int) (ls : List (Int × Int)) (hs : List Int) : List Prb := outQ n ls hs hs.length
theorem stepQ_no {n : Int} {ls : List (Int × Int)} {acc : List Prb} {x y : Int} (h : (probeV n ls x y).2 = false) : stepQ n ls acc x y = acc := by
  unfold stepQ
  rw [if_neg (by rw [h]; simp)]
theorem stepQ_full {n : Int} {ls : List (Int × Int)} {acc : List Prb} {x y : Int} (h : ¬ acc.length < 12) : stepQ n ls acc x y = acc := by
  unfold stepQ
  rw [if_neg (fun e => h e.2)]
theorem stepQ_add {n : Int} {ls : List (Int × Int)} {acc : List Prb} {x y : Int} (h : (probeV n ls x y).2 = true) (hl : acc.length < 12) : stepQ n ls acc x y = acc ++ [(probeV n ls x y).1] := by
  unfold stepQ
  rw [if_pos ⟨h, hl⟩]
theorem stepQ_len {n : Int} {ls : List (Int × Int)} {acc : List Prb} {x y : Int} (h : acc.length ≤ 12) : (stepQ n ls acc x y).length ≤ 12 := by
  unfold stepQ
  split
  · rename_i h2
    rw [List.length_append]
    simp
    omega
  · exact h
theorem inQ_next (n : Int) (ls : List (Int × Int)) (x : Int) {l : List Int} (acc : List Prb) {j : Nat} (hj : j < l.length) : inQ n ls x (l.take (j + 1)) acc = stepQ n ls (inQ n ls x (l.take j) acc) x (l.getD j 0) := by
  unfold inQ
  rw [List.take_add_one, List.foldl_append]
  simp [List.getD, hj]
theorem inQ_full {n : Int} {ls : List (Int × Int)} {x : Int} : ∀ {l : List Int} {acc : List Prb}, ¬ acc.length < 12 → inQ n ls x l acc = acc
  | [], _, _ => rfl
  | y :: r, acc, h => by
    show inQ n ls x r (stepQ n ls acc x y) = acc
    rw [stepQ_full h]
    exact inQ_full h
theorem inQ_len {n : Int} {ls : List (Int × Int)} {x : Int} : ∀ {l : List Int} {acc : List Prb}, acc.length ≤ 12 → (inQ n ls x l acc).length ≤ 12
  | [], _, h => h
  | _ :: r, _, h => inQ_len (l := r) (stepQ_len h)
theorem inQ_append (n : Int) (ls : List (Int × Int)) (x : Int) (l m : List Int) (acc : List Prb) : inQ n ls x (l ++ m) acc = inQ n ls x m (inQ n ls x l acc) := by
  unfold inQ
  rw [List.foldl_append]
theorem outQ_len {n : Int} {ls : List (Int × Int)} {hs : List Int} : ∀ i, (outQ n ls hs i).length ≤ 12
  | 0 => Nat.zero_le _
  | i + 1 => inQ_len (outQ_len i)
theorem outQ_full {n : Int} {ls : List (Int × Int)} {hs : List Int} {i : Nat} (h : ¬ (outQ n ls hs i).length < 12) : ∀ d, outQ n ls hs (i + d) = outQ n ls hs i
  | 0 => rfl
  | d + 1 => by
    show inQ n ls _ _ (outQ n ls hs (i + d)) = _
    rw [outQ_full h d]
    exact inQ_full h
/-- Once there are twelve, these are all. -/
theorem probesV_full {n : Int} {ls : List (Int × Int)} {hs : List Int} {i j : Nat} (hi : i < hs.length) (h : ¬ (inQ n ls (hs.getD i 0) ((hs.drop (i + 1)).take j) (outQ n ls hs i)).length < 12) : probesV n ls hs = inQ n ls (hs.getD i 0) ((hs.drop (i + 1)).take j) (outQ n ls hs i) := by
  have e : outQ n ls hs (i + 1) = inQ n ls (hs.getD i 0) ((hs.drop (i + 1)).take j) (outQ n ls hs i) := by
    show inQ n ls _ _ _ = _
    conv => lhs; rw [← List.take_append_drop j (hs.drop (i + 1))]
    rw [inQ_append]
    exact inQ_full h
  unfold probesV
  have e2 : hs.length = i + 1 + (hs.length - (i + 1)) := by omega
  rw [e2, outQ_full (by rw [e]; exact h), e]
theorem probe_ends {n : Int} {ls : List (Int × Int)} {x y : Int} {p : Prb} {t : Bool} (h : probeV n ls x y = (p, t)) (hx : (Lit.int .i64 x).wf = true) (hy : (Lit.int .i64 y).wf = true) : (Lit.int .i64 p.1).wf = true ∧ (Lit.int .i64 p.2.1).wf = true := by
  unfold probeV at h
  split at h
  · simp only [Prod.mk.injEq] at h
    rw [← h.1]
    exact ⟨by decide, by decide⟩
  · simp only [Prod.mk.injEq] at h
    rw [← h.1]
    exact ⟨hx, hy⟩
theorem ownQ_nil0 (W : World) : OwnQ (W.alloc (.cells #[] 38)) W.heap.size (W.heap.size + 1) (some ⟨W.heap.size, 0, none⟩) 0 0 [] :=
  ⟨rfl, fun _ h => by simp at h, by simp, fun x hx => by cases hx; exact ⟨Nat.le_refl _, Nat.lt_succ_self _⟩, fun _ => none, fun _ => 0, ⟨rfl, .inr ⟨W.heap.size, 0, #[], rfl, Nat.le_refl _, heap_alloc_new W _, Nat.le_refl _, Nat.zero_le _, rfl, rfl⟩⟩, fun r hr => absurd hr (Nat.not_lt_zero _)⟩
theorem ownQ_nilB {W : World} {B : Nat} (hB : B = W.heap.size) : OwnQ (W.alloc (.cells #[] 38)) W.heap.size (W.alloc (.cells #[] 38)).heap.size (some ⟨B, 0, none⟩) 0 0 [] := by
  subst hB
  exact (ownQ_nil0 W).wide (Nat.le_refl _) (ownQ_nil0 W).2.2.1 (Nat.le_refl _)
/-- Block B may be written. -/
structure FreeP (w : World) (B : Nat) : Prop where
  f0 : w.frozen? ⟨B, 0, none⟩ = false
  f1 : w.frozen? ⟨B, 1, none⟩ = false
  f2 : w.frozen? ⟨B, 2, none⟩ = false
  lt : B < w.heap.size
theorem free_new (w : World) (x y : Int) (a : Option Addr) (len cap : Nat) (t : TypeId) : FreeP (w.alloc (.cells #[.int .i64 x, .int .i64 y, .slice a len cap] t)) w.heap.size :=
  ⟨by go_simp, by go_simp, by go_simp, by simp⟩
theorem FreeP.below {w w' : World} {B : Nat} (h : FreeP w B) (hb : Below w.heap.size w w') : FreeP w' B :=
  ⟨(hb.frozen (p := ⟨B, 0, none⟩) h.lt).trans h.f0, (hb.frozen (p := ⟨B, 1, none⟩) h.lt).trans h.f1, (hb.frozen (p := ⟨B, 2, none⟩) h.lt).trans h.f2, Nat.lt_of_lt_of_le h.lt hb.size⟩
def set3 (w : World) (B : Nat) (x y : Int) (a : Option Addr) (len cap : Nat) : World := ((w.setCell ⟨B, 0, none⟩ (.int .i64 x)).setCell ⟨B, 1, none⟩ (.int .i64 y)).setCell ⟨B, 2, none⟩ (.slice a len cap)
theorem PrbAt.put {w : World} {B : Nat} {x y : Int} {a : Option Addr} {len cap : Nat} (h : PrbAt w B x y a len cap) (p q : Int) (a' : Option Addr) (l' c' : Nat) : PrbAt (set3 w B p q a' l' c') B p q a' l' c' := by
  have h1 : (w.setCell ⟨B, 0, none⟩ (.int .i64 p)).cell? ⟨B, 1, none⟩ = some (.int .i64 y) := (World.cell?_setCell_other _ _ _ _ (by simp)).trans h.c1
  have h2 : ((w.setCell ⟨B, 0, none⟩ (.int .i64 p)).setCell ⟨B, 1, none⟩ (.int .i64 q)).cell? ⟨B, 2, none⟩ = some (.slice a len cap) := (World.cell?_setCell_other _ _ _ _ (by simp)).trans ((World.cell?_setCell_other _ _ _ _ (by simp)).trans h.c2)
  refine ⟨?_, ?_, World.cell?_setCell_same _ _ _ h2, by simpa [set3, World.setCell] using h.lt⟩
  · exact (World.cell?_setCell_other _ _ _ _ (by simp)).trans ((World.cell?_setCell_other _ _ _ _ (by simp)).trans (World.cell?_setCell_same _ _ _ h.c0))
  · exact (World.cell?_setCell_other _ _ _ _ (by simp)).trans (World.cell?_setCell_same _ _ _ h1)
theorem below_set3 {B : Nat} {w0 w : World} {C : Nat} (h : Below B w0 w) (hB : B ≤ C) (x y : Int) (a : Option Addr) (len cap : Nat) : Below B w0 (set3 w C x y a len cap) := ((h.setCell hB _).setCell hB _).setCell hB _
theorem moved_put3 (w : World) (C : Nat) (x y : Int) (a : Option Addr) (len cap : Nat) : Moved C (C + 1) w (set3 w C x y a len cap) :=
  ((moved_set3 _ _ _ _ (Nat.le_refl _) (Nat.lt_succ_self _)).trans (moved_set3 _ _ _ _ (Nat.le_refl _) (Nat.lt_succ_self _))).trans (moved_set3 _ _ _ _ (Nat.le_refl _) (Nat.lt_succ_self _))
theorem Sees.spot {k : IntKind} {w : World} {a : Option Addr} {len : Nat} {zs : List Int} (h : Sees k w a len zs) (h0 : 0 < len) : ∃ b off, a = some ⟨b, off, none⟩ ∧ b < w.heap.size ∧ ∀ j, j < len → w.cell? ⟨b, off + j, none⟩ = some (.int k (zs.getD j 0)) := by
  rcases h.2.2 with h1 | h1
  · omega
  · exact h1
theorem drop_getD (hs : List Int) (i j : Nat) : (hs.drop i).getD j 0 = hs.getD (i + j) 0 := by simp [List.getD]
end Go.Proofs.Ytjckcggjmcaaoaa
