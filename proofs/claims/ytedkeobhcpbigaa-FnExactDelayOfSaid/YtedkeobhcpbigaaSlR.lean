/- Slices of fractions: what is seen of one, and what a call owns. -/
import Derived.Test.YtedkeobhcpbigaaSlA
import Derived.Test.YtedkeobhcpbigaaRatA
import Derived.Deep.RegionHeld3
import Derived.Laws.CopyRow
namespace Go.Proofs.Ytedkeobhcpbigaa
open Go.RowKit
/-- The numbers of fractions, one behind the other. -/
def flat : List (Int × Int) → List Int
  | [] => []
  | p :: r => p.1 :: p.2 :: flat r
theorem flat_len : ∀ xs : List (Int × Int), (flat xs).length = xs.length * 2
  | [] => rfl
  | p :: r => by simp only [flat, List.length_cons, flat_len r]; omega
theorem flat_append : ∀ xs ys : List (Int × Int), flat (xs ++ ys) = flat xs ++ flat ys
  | [], _ => rfl
  | p :: r, ys => by simp only [List.cons_append, flat, flat_append r ys]
theorem flat_num : ∀ (xs : List (Int × Int)) (k : Nat), k < xs.length → (flat xs)[k * 2]? = some (xs.getD k (0, 0)).1
  | [], k, h => absurd h (Nat.not_lt_zero _)
  | p :: r, 0, _ => rfl
  | p :: r, k + 1, h => by
    have ih := flat_num r k (by simpa using h)
    rw [show (k + 1) * 2 = k * 2 + 1 + 1 by omega, flat, List.getElem?_cons_succ, List.getElem?_cons_succ, ih]
    simp [List.getD]
theorem flat_den : ∀ (xs : List (Int × Int)) (k : Nat), k < xs.length → (flat xs)[k * 2 + 1]? = some (xs.getD k (0, 0)).2
  | [], k, h => absurd h (Nat.not_lt_zero _)
  | p :: r, 0, _ => rfl
  | p :: r, k + 1, h => by
    have ih := flat_den r k (by simpa using h)
    rw [show (k + 1) * 2 + 1 = k * 2 + 1 + 1 + 1 by omega, flat, List.getElem?_cons_succ, List.getElem?_cons_succ, ih]
    simp [List.getD]
theorem flat_set : ∀ (xs : List (Int × Int)) (k : Nat) (p : Int × Int), flat (xs.set k p) = ((flat xs).set (k * 2) p.1).set (k * 2 + 1) p.2
  | [], k, p => by simp [flat]
  | q :: r, 0, p => rfl
  | q :: r, k + 1, p => by
    rw [List.set_cons_succ, flat, flat_set r k p, flat, show (k + 1) * 2 = k * 2 + 1 + 1 by omega]
    rfl
theorem flat_repl (n : Nat) (p : Int × Int) (h : p.1 = p.2) : flat (List.replicate n p) = List.replicate (n * 2) p.1 := by
  induction n with
  | zero => rfl
  | succ n ih => rw [List.replicate_succ, flat, ih, show (n + 1) * 2 = n * 2 + 1 + 1 by omega, List.replicate_succ, List.replicate_succ, ← h]
/-- Both numbers fit. -/
def FitR (xs : List (Int × Int)) : Prop := ∀ p ∈ xs, (Lit.int .i64 p.1).wf = true ∧ (Lit.int .i64 p.2).wf = true
/-- The slice's elements are the fractions xs. -/
def SeesR (w : World) (a : Option Addr) (len : Nat) (xs : List (Int × Int)) : Prop :=
  xs.length = len ∧ FitR xs ∧
    (len = 0 ∨ ∃ b off, a = some ⟨b, off, none⟩ ∧ b < w.heap.size ∧ ∀ j, j < len → w.cell? ⟨b, off + j * 2, none⟩ = some (.int .i64 (xs.getD j (0, 0)).1) ∧ w.cell? ⟨b, off + j * 2 + 1, none⟩ = some (.int .i64 (xs.getD j (0, 0)).2))
theorem SeesR.below {w w' : World} {a : Option Addr} {len : Nat} {xs : List (Int × Int)} (h : SeesR w a len xs) (hb : Below w.heap.size w w') : SeesR w' a len xs := by
  obtain ⟨h1, h2, h3⟩ := h
  refine ⟨h1, h2, ?_⟩
  rcases h3 with h3 | ⟨b, off, ha, hlt, hc⟩
  · exact .inl h3
  · exact .inr ⟨b, off, ha, Nat.lt_of_lt_of_le hlt hb.size, fun j hj => ⟨(hb.cell (p := ⟨b, off + j * 2, none⟩) hlt).trans (hc j hj).1, (hb.cell (p := ⟨b, off + j * 2 + 1, none⟩) hlt).trans (hc j hj).2⟩⟩
theorem SeesR.moved {w w' : World} {a : Option Addr} {len lo hi : Nat} {xs : List (Int × Int)} (h : SeesR w a len xs) (hm : Moved lo hi w w') (ho : ∀ x, a = some x → ¬ (lo ≤ x.block ∧ x.block < hi)) : SeesR w' a len xs := by
  obtain ⟨h1, h2, h3⟩ := h
  refine ⟨h1, h2, ?_⟩
  rcases h3 with h3 | ⟨b, off, ha, hlt, hc⟩
  · exact .inl h3
  · refine .inr ⟨b, off, ha, Nat.lt_of_lt_of_le hlt hm.size, fun j hj => ?_⟩
    have e : ∀ x, w'.cell? ⟨b, x, none⟩ = w.cell? ⟨b, x, none⟩ := fun x => World.cell?_of_block (w := w) (a := ⟨b, x, none⟩) (hm.block b hlt (ho _ ha))
    rw [e, e]
    exact hc j hj
/-- A row of fractions of the call's own. -/
def OwnR (w : World) (lo hi : Nat) (a : Option Addr) (len cap : Nat) (xs : List (Int × Int)) : Prop :=
  xs.length = len ∧ FitR xs ∧ hi ≤ w.heap.size ∧ w.ownsRow lo 30 2 (.slice a len cap) len ((flat xs).map (.int .i64)) ∧ (∀ x, a = some x → lo ≤ x.block ∧ x.block < hi)
theorem OwnR.spot {w : World} {lo hi : Nat} {a : Option Addr} {len cap : Nat} {xs : List (Int × Int)} (h : OwnR w lo hi a len cap xs) :
    (a = none ∧ len = 0 ∧ cap = 0 ∧ xs = []) ∨ ∃ g, a = some ⟨g, 0, none⟩ ∧ lo ≤ g ∧ g < hi ∧ len ≤ cap ∧ cap ≤ maxLen ∧ (∀ j, j < len → w.cell? ⟨g, j * 2, none⟩ = some (.int .i64 (xs.getD j (0, 0)).1) ∧ w.cell? ⟨g, j * 2 + 1, none⟩ = some (.int .i64 (xs.getD j (0, 0)).2)) ∧ ∀ j, w.frozen? ⟨g, j, none⟩ = false := by
  obtain ⟨h1, h2, h3, h4, h5⟩ := h
  have h4' := h4
  rcases h4.2 with ⟨hv, hn⟩ | ⟨g, c, cur, hv, hlo, hg, hnc, hcm, hcs, htk⟩
  · simp only [Value.slice.injEq] at hv
    obtain ⟨rfl, rfl, rfl⟩ := hv
    exact .inl ⟨rfl, rfl, rfl, List.eq_nil_of_length_eq_zero h1⟩
  · simp only [Value.slice.injEq, true_and] at hv
    obtain ⟨rfl, rfl⟩ := hv
    refine .inr ⟨g, rfl, hlo, (h5 _ rfl).2, hnc, hcm, fun j hj => ⟨?_, ?_⟩, fun j => h4'.frozenAt j⟩
    · rw [h4'.cellAt (j * 2) (by omega), List.getElem?_map, flat_num xs j (by omega)]
      rfl
    · rw [h4'.cellAt (j * 2 + 1) (by omega), List.getElem?_map, flat_den xs j (by omega)]
      rfl
theorem OwnR.sees {w : World} {lo hi : Nat} {a : Option Addr} {len cap : Nat} {xs : List (Int × Int)} (h : OwnR w lo hi a len cap xs) : SeesR w a len xs := by
  refine ⟨h.1, h.2.1, ?_⟩
  rcases h.spot with ⟨_, h0, _⟩ | ⟨g, ha, _, hg, _, _, hc, _⟩
  · exact .inl h0
  · exact .inr ⟨g, 0, ha, Nat.lt_of_lt_of_le hg h.2.2.1, fun j hj => by rw [Nat.zero_add]; exact hc j hj⟩
theorem OwnR.spotAt {w : World} {lo hi g len cap : Nat} {xs : List (Int × Int)} (h : OwnR w lo hi (some ⟨g, 0, none⟩) len cap xs) (k : Nat) (hk : k < len) :
    w.cell? ⟨g, k * 2, none⟩ = some (.int .i64 (xs.getD k (0, 0)).1) ∧ w.cell? ⟨g, k * 2 + 1, none⟩ = some (.int .i64 (xs.getD k (0, 0)).2) ∧ ∀ j, w.frozen? ⟨g, j, none⟩ = false := by
  rcases h.spot with ⟨h0, _⟩ | ⟨g', hg, _, _, _, _, hc, hf⟩
  · cases h0
  cases hg
  exact ⟨(hc k hk).1, (hc k hk).2, hf⟩
theorem OwnR.room {w : World} {lo hi : Nat} {a : Option Addr} {len cap : Nat} {xs : List (Int × Int)} (h : OwnR w lo hi a len cap xs) : len ≤ cap ∧ cap ≤ maxLen := by
  rcases h.spot with ⟨_, h0, h1, _⟩ | ⟨g, _, _, _, h1, h2, _⟩
  · rw [h0, h1]; exact ⟨Nat.le_refl _, Nat.zero_le _⟩
  · exact ⟨h1, h2⟩
theorem OwnR.moved {w w' : World} {lo hi lo2 hi2 : Nat} {a : Option Addr} {len cap : Nat} {xs : List (Int × Int)} (h : OwnR w lo hi a len cap xs) (hm : Moved lo2 hi2 w w') (ho : hi ≤ lo2 ∨ hi2 ≤ lo) : OwnR w' lo hi a len cap xs := by
  obtain ⟨h1, h2, h3, h4, h5⟩ := h
  refine ⟨h1, h2, Nat.le_trans h3 hm.size, ⟨h4.1, ?_⟩, h5⟩
  rcases h4.2 with h | ⟨g, c, cur, hv, hlo, hg, rest⟩
  · exact .inl h
  · refine .inr ⟨g, c, cur, hv, hlo, ?_, rest⟩
    have hgs := (Array.getElem?_eq_some_iff.1 hg).1
    simp only [Value.slice.injEq, true_and] at hv
    have hb := h5 _ hv.1
    simp only at hb
    rw [hm.block g hgs (by omega)]
    exact hg
theorem OwnR.below {w w' : World} {lo hi : Nat} {a : Option Addr} {len cap : Nat} {xs : List (Int × Int)} (h : OwnR w lo hi a len cap xs) (hb : Below w.heap.size w w') : OwnR w' lo hi a len cap xs :=
  h.moved (Moved.of_below (lo := hi) (hi := hi) hb) (.inl (Nat.le_refl _))
theorem OwnR.wide {w : World} {lo hi lo2 hi2 : Nat} {a : Option Addr} {len cap : Nat} {xs : List (Int × Int)} (h : OwnR w lo hi a len cap xs) (h1 : lo2 ≤ lo) (h2 : hi ≤ hi2) (h3 : hi2 ≤ w.heap.size) : OwnR w lo2 hi2 a len cap xs := by
  obtain ⟨g1, g2, g3, g4, g5⟩ := h
  refine ⟨g1, g2, h3, ⟨g4.1, ?_⟩, fun x hx => ⟨Nat.le_trans h1 (g5 x hx).1, Nat.lt_of_lt_of_le (g5 x hx).2 h2⟩⟩
  rcases g4.2 with h | ⟨g, c, cur, hv, hlo, rest⟩
  · exact .inl h
  · exact .inr ⟨g, c, cur, hv, Nat.le_trans h1 hlo, rest⟩
theorem ownR_of {w : World} {lo n : Nat} {a : Option Addr} {len cap : Nat} {xs : List (Int × Int)} (h : w.ownsRow lo 30 2 (.slice a len cap) n ((flat xs).map (.int .i64))) (hw : FitR xs) : OwnR w lo w.heap.size a len cap xs := by
  have hn : xs.length = n := by have := h.1; rw [List.length_map, flat_len] at this; omega
  have hl : len = n := by
    rcases h.2 with ⟨hv, h0⟩ | ⟨g, c, cur, hv, _⟩
    · simp only [Value.slice.injEq] at hv; omega
    · simp only [Value.slice.injEq] at hv; exact hv.2.1
  subst hl
  refine ⟨hn, hw, Nat.le_refl _, h, fun x hx => ?_⟩
  subst hx
  exact h.lt x.block rfl
theorem FitR.set {xs : List (Int × Int)} (h : FitR xs) {k : Nat} {p : Int × Int} (hp : (Lit.int .i64 p.1).wf = true ∧ (Lit.int .i64 p.2).wf = true) : FitR (xs.set k p) := fun q hq => by
  rcases List.mem_or_eq_of_mem_set hq with hm | rfl
  · exact h q hm
  · exact hp
/-- A fraction is put in its place: two cells. -/
theorem OwnR.stored {w : World} {lo hi g len cap : Nat} {xs : List (Int × Int)} (h : OwnR w lo hi (some ⟨g, 0, none⟩) len cap xs) (j : Nat) (p : Int × Int) (hp : (Lit.int .i64 p.1).wf = true ∧ (Lit.int .i64 p.2).wf = true) :
    OwnR ((w.setCell ⟨g, j * 2, none⟩ (.int .i64 p.1)).setCell ⟨g, j * 2 + 1, none⟩ (.int .i64 p.2)) lo hi (some ⟨g, 0, none⟩) len cap (xs.set j p) ∧ Moved lo hi w ((w.setCell ⟨g, j * 2, none⟩ (.int .i64 p.1)).setCell ⟨g, j * 2 + 1, none⟩ (.int .i64 p.2)) := by
  obtain ⟨h1, h2, h3, h4, h5⟩ := h
  obtain ⟨s1, s2⟩ := h4.stored (j * 2) (.int .i64 p.1)
  obtain ⟨t1, t2⟩ := s1.stored (j * 2 + 1) (.int .i64 p.2)
  have hb := h5 _ rfl
  simp only at hb
  refine ⟨⟨by simpa using h1, h2.set hp, by simpa [World.setCell] using h3, by rw [flat_set, List.map_set, List.map_set]; exact t1, h5⟩, (Moved.of_grown s2 hb.1 hb.2).trans (Moved.of_grown t2 hb.1 hb.2)⟩
/-- What a call leaves that makes a slice of fractions. -/
def MadeR (xs : List (Int × Int)) (w : World) (E : Ending) (w' : World) : Prop :=
  ∃ a len cap, E = .returned (.slice a len cap) ∧ OwnR w' w.heap.size w'.heap.size a len cap xs ∧ Below w.heap.size w w'
def overR (ys zs : List (Int × Int)) (k : Nat) : List (Int × Int) := ys.take k ++ zs.drop k
theorem overR_zero (ys zs : List (Int × Int)) : overR ys zs 0 = zs := by simp [overR]
theorem overR_all (ys zs : List (Int × Int)) (h : ys.length = zs.length) : overR ys zs ys.length = ys := by
  unfold overR
  rw [List.take_length, List.drop_eq_nil_of_le (by omega), List.append_nil]
theorem overR_set (ys zs : List (Int × Int)) (k : Nat) (h : ys.length = zs.length) (hk : k < ys.length) : (overR ys zs k).set k (ys.getD k (0, 0)) = overR ys zs (k + 1) := by
  apply List.ext_getElem
  · simp [overR]; omega
  · intro i h1 h2
    simp only [overR, List.length_set, List.length_append, List.length_take, List.length_drop] at h1 h2
    rw [List.getElem_set]
    by_cases hi : k = i
    · subst hi
      have hl : k < (List.take (k + 1) ys).length := by simp; omega
      simp only [if_true, overR]
      rw [List.getElem_append_left hl, List.getElem_take]
      simp [List.getD, hk]
    · simp only [hi, if_false, overR, List.getElem_append, List.length_take, List.getElem_take, List.getElem_drop]
      split
      · rw [dif_pos (by omega)]
      · rw [dif_neg (by omega)]
        congr 1
        omega
theorem getR_mem {l : List (Int × Int)} {j : Nat} (h : j < l.length) : l.getD j (0, 0) ∈ l := by simp [List.getD, h]
theorem info_rat : (Try.prog.info? 30).map (fun i => (i.zero, i.size, i.bytes)) = some (some (.agg #[.int .i64 0, .int .i64 0]), 2, 16) := by kernel_rfl
theorem madeR_row (w : World) (lo len g : Nat) (h : w.ownsRow lo 30 2 (.slice (some ⟨g, 0, none⟩) len len) len (madeCells (Value.agg #[.int .i64 0, .int .i64 0]).cells (len * 2)).toList) : OwnR w lo w.heap.size (some ⟨g, 0, none⟩) len len (List.replicate len (0, 0)) := by
  refine ownR_of (n := len) ?_ (fun p hp => by rw [List.eq_of_mem_replicate hp]; exact ⟨by decide, by decide⟩)
  have e : (flat (List.replicate len (0, 0))).map (Value.int .i64) = (madeCells (Value.agg #[.int .i64 0, .int .i64 0]).cells (len * 2)).toList := by
    rw [flat_repl _ _ rfl, List.map_replicate]
    apply List.ext_getElem?
    intro j
    have hc : (Value.agg #[.int .i64 0, .int .i64 0]).cells = #[.int .i64 0, .int .i64 0] := rfl
    rw [hc]
    by_cases hj : j < len * 2
    · have h2 : j % 2 = 0 ∨ j % 2 = 1 := by omega
      rcases h2 with h2 | h2 <;> simp [madeCells, hj, h2]
    · simp [madeCells, hj]
  rw [e]
  exact h
end Go.Proofs.Ytedkeobhcpbigaa
/- What the laws do to slices of fractions: compare, mark, look for the marks, measure. -/
namespace Go.Proofs.Ytedkeobhcpbigaa
open Go.RowKit
/-- The marks from m on, two a fraction. -/
def marksR (m : Int) (n : Nat) : List (Int × Int) := (List.range n).map (fun (j : Nat) => (m + (j : Int) * 2, m + (j : Int) * 2 + 1))
theorem marksR_len (m : Int) (n : Nat) : (marksR m n).length = n := by simp [marksR]
theorem marksR_at (m : Int) (n j : Nat) (h : j < n) : (marksR m n).getD j (0, 0) = (m + (j : Int) * 2, m + (j : Int) * 2 + 1) := by simp [marksR, List.getD, h]
end Go.Proofs.Ytedkeobhcpbigaa
/- Slices of fractions: a literal, and what goes behind an own row. -/
namespace Go.Proofs.Ytedkeobhcpbigaa
open Go.RowKit
theorem ownR_nil (w : World) : OwnR (w.alloc (.cells #[] 30)) w.heap.size (w.heap.size + 1) (some ⟨w.heap.size, 0, none⟩) 0 0 [] := by
  refine ⟨rfl, (fun _ h => by cases h), by simp, ⟨rfl, .inr ⟨w.heap.size, 0, #[], rfl, Nat.le_refl _, heap_alloc_new w _, Nat.le_refl _, Nat.zero_le _, rfl, rfl⟩⟩, fun x hx => ?_⟩
  obtain rfl := Option.some.inj hx
  exact ⟨Nat.le_refl _, Nat.lt_succ_self _⟩
theorem ownR_empty (w : World) (lo : Nat) (h : lo ≤ w.heap.size) : OwnR (w.alloc (.cells #[] 30)) lo (w.alloc (.cells #[] 30)).heap.size (some ⟨w.heap.size, 0, none⟩) 0 0 [] :=
  (ownR_nil w).wide h (by simp) (Nat.le_refl _)
theorem seesR_one {x y : Int} (hx : (Lit.int .i64 x).wf = true) (hy : (Lit.int .i64 y).wf = true) (w : World) (t : TypeId) : SeesR (w.alloc (.cells #[.int .i64 x, .int .i64 y] t)) (some ⟨w.heap.size, 0, none⟩) 1 [(x, y)] := by
  refine ⟨rfl, fun p hp => ?_, .inr ⟨_, _, rfl, by simp, fun j hj => ?_⟩⟩
  · rw [List.mem_singleton.1 hp]
    exact ⟨hx, hy⟩
  · obtain rfl : j = 0 := by omega
    simp
theorem SeesR.alloc {w : World} {a : Option Addr} {len : Nat} {xs : List (Int × Int)} (h : SeesR w a len xs) (o : Obj) : SeesR (w.alloc o) a len xs :=
  h.below ((Below.refl _ _).alloc (Nat.le_refl _) _)
theorem OwnR.alloc {w : World} {lo hi : Nat} {a : Option Addr} {len cap : Nat} {xs : List (Int × Int)} (h : OwnR w lo hi a len cap xs) (o : Obj) : OwnR (w.alloc o) lo hi a len cap xs :=
  h.below ((Below.refl _ _).alloc (Nat.le_refl _) _)
theorem FitR.append {xs ys : List (Int × Int)} (h : FitR xs) (g : FitR ys) : FitR (xs ++ ys) := fun p hp => (List.mem_append.1 hp).elim (h p) (g p)
theorem own_shapeR {w : World} {lo n : Nat} {v : Value} {xs : List Value} (h : w.ownsRow lo 30 2 v n xs) : ∃ a cap, v = .slice a n cap := by
  rcases h.2 with ⟨rfl, rfl⟩ | ⟨g, c, cur, rfl, _⟩
  · exact ⟨_, _, rfl⟩
  · exact ⟨_, _, rfl⟩
/-- Fractions that are seen go behind an own row's. -/
theorem wp_append_seesR {P : Program} {w : World} {ops : Array Oper} {rest : List Oper} {o : Oper} {act : Act} {Q : Exit → Act → World → Prop} (hgd : o.guard = none) (s x : Operand) (t : TypeId)
    (ho : o.op = .call { callee := .builtin .append, args := #[s, x], argTypes := #[t, t] }) (i : TypeInfo) (ht : P.underlying t = some (.slice 30)) (hi : P.info? 30 = some i)
    (hz : i.zero = some (.agg #[.int .i64 0, .int .i64 0])) (hsize : i.size = 2) (hby : i.bytes = 16) (a1 : Option Addr) (len1 cap1 : Nat) (xs1 : List (Int × Int)) (hs : act.eval s = .slice a1 len1 cap1) (lo hi1 : Nat) (hown : OwnR w lo hi1 a1 len1 cap1 xs1)
    (ad : Addr) (len2 cap2 : Nat) (xs2 : List (Int × Int)) (hx : act.eval x = .slice (some ad) len2 cap2) (hsee : SeesR w (some ad) len2 xs2) (h63 : len1 + len2 ≤ maxLen) (h47 : (len1 + len2) * 16 ≤ 140737488355328) (hlo : lo ≤ w.heap.size)
    (h : ∀ a' len' cap' w', len' = len1 + len2 → OwnR w' lo w'.heap.size a' len' cap' (xs1 ++ xs2) → Moved lo hi1 w w' → wpList P ops Q rest (act.put o.dst (.slice a' len' cap')) w') : wpList P ops Q (o :: rest) act w := by
  have hn2 : ((flat xs2).map (Value.int .i64)).length = len2 * 2 := by rw [List.length_map, flat_len, hsee.1]
  refine wpList_append_own w hgd s x t ho lo 30 i _ 2 16 ht hi hz hsize hby rfl (by decide) _ len1 _ hs hown.2.2.2.1 ad len2 cap2 ((flat xs2).map (.int .i64)) hx hn2 ?_ (ints_oneCell _ _) h63 h47 hlo ?_
  · intro j u hu
    have hj := (List.getElem?_eq_some_iff.1 hu).1
    rw [hn2] at hj
    rcases hsee.2.2 with h0 | ⟨b, off, ha, _, hc⟩
    · omega
    · obtain rfl := Option.some.inj ha
      obtain ⟨k, hk⟩ : ∃ k, j = k * 2 ∨ j = k * 2 + 1 := ⟨j / 2, by omega⟩
      have hcell := hc k (by omega)
      rw [List.getElem?_map] at hu
      rw [add_plain]
      rcases hk with rfl | rfl
      · rw [flat_num xs2 k (by rw [hsee.1]; omega)] at hu
        rw [hcell.1, ← hu]
        rfl
      · rw [flat_den xs2 k (by rw [hsee.1]; omega)] at hu
        rw [← Nat.add_assoc, hcell.2, ← hu]
        rfl
  · intro v' w' ho' hg _
    obtain ⟨a', cap', rfl⟩ := own_shapeR ho'
    refine h a' _ cap' w' rfl (ownR_of (n := len1 + len2) (by rw [flat_append, List.map_append]; exact ho') (hown.2.1.append hsee.2.1)) ?_
    refine ⟨hg.os, hg.tape, hg.output, hg.size, fun k hk hne => hg.block k hk fun e => hne ?_⟩
    cases a1 with
    | none => simp [Value.ownBlock] at e
    | some x =>
      simp only [Value.ownBlock, Option.some.injEq] at e
      have := hown.2.2.2.2 _ rfl
      omega
end Go.Proofs.Ytedkeobhcpbigaa
/- The library's Repeat of a list of fractions. -/
namespace Go.Proofs.Ytedkeobhcpbigaa
open Go.RowKit
theorem flat_take : ∀ (xs : List (Int × Int)) (k : Nat), flat (xs.take k) = (flat xs).take (k * 2)
  | [], k => by simp [flat]
  | p :: r, 0 => by simp [flat]
  | p :: r, k + 1 => by
    rw [List.take_succ_cons, flat, flat, flat_take r k, show (k + 1) * 2 = k * 2 + 1 + 1 by omega, List.take_succ_cons, List.take_succ_cons]
theorem flat_drop : ∀ (xs : List (Int × Int)) (k : Nat), flat (xs.drop k) = (flat xs).drop (k * 2)
  | [], k => by simp [flat]
  | p :: r, 0 => by simp [flat]
  | p :: r, k + 1 => by
    rw [List.drop_succ_cons, flat, flat_drop r k, show (k + 1) * 2 = k * 2 + 1 + 1 by omega, List.drop_succ_cons, List.drop_succ_cons]
theorem splice_take {α : Type} (A F cs : List α) (a L : Nat) (h : A.take L = F) (hl : a + cs.length ≤ L) (hA : L ≤ A.length) : (A.take a ++ cs ++ A.drop (a + cs.length)).take L = F.take a ++ (cs ++ F.drop (a + cs.length)) := by
  subst h
  rw [List.take_append, List.take_of_length_le (by simp; omega), List.append_assoc]
  congr 1
  · rw [List.take_take, Nat.min_eq_left (by omega)]
  · congr 1
    rw [List.length_append, List.length_take, Nat.min_eq_left (by omega), List.drop_take]
theorem flat_fit {xs : List (Int × Int)} : ∀ v ∈ (flat xs).map (Value.int .i64), v.oneCell' = true := ints_oneCell _ _
theorem run_copy_ownR {P : Program} (w : World) (dT sT ty : TypeId) (i : TypeInfo) (hu : P.underlying dT = some (.slice 30)) (hi : P.info? 30 = some i) (hsize : i.size = 2) {lo hi2 g len cap : Nat} {xs : List (Int × Int)} (h : OwnR w lo hi2 (some ⟨g, 0, none⟩) len cap xs)
    (o dLen dCap : Nat) (a : Addr) (sLen sCap : Nat) (ps : List (Int × Int)) (hn : ps.length = Nat.min sLen dLen) (hfit : o + ps.length ≤ len) (hf : FitR ps) (hsrc : ∀ j v, ((flat ps).map (Value.int .i64))[j]? = some v → w.cell? (a.add j) = some v) :
    ∃ w', (Builtin.copy_ #[dT, sT] ty #[.slice (some ⟨g, o * 2, none⟩) dLen dCap, .slice (some a) sLen sCap]).run P w = .ok (goInt ps.length) w' ∧ OwnR w' lo hi2 (some ⟨g, 0, none⟩) len cap (xs.take o ++ (ps ++ xs.drop (o + ps.length))) ∧ Moved lo hi2 w w' := by
  obtain ⟨h1, h2, h3, h4, h5⟩ := h
  have hb := h5 _ rfl
  simp only at hb
  rcases h4.2 with ⟨hv, _⟩ | ⟨g', c, cur, hv, hlo, hg, hnc, hcm, hcs, htk⟩
  · cases hv
  simp only [Value.slice.injEq, Option.some.injEq, Addr.mk.injEq, and_true, true_and] at hv
  obtain ⟨rfl, rfl⟩ := hv
  have hlen : ((flat ps).map (Value.int .i64)).length = ps.length * 2 := by rw [List.length_map, flat_len]
  have hl := run_loadCells_list (P := P) w a ((flat ps).map (Value.int .i64)) hsrc
  have hst := run_storeCells_at P g (o * 2) 30 ((flat ps).map (Value.int .i64)) 0 cur w hg (by rw [hlen, hcs]; omega) flat_fit
  rw [hlen] at hl
  obtain ⟨row, hrow⟩ : ∃ row, row = (cur.toList.take (o * 2 + 0) ++ (flat ps).map (Value.int .i64) ++ cur.toList.drop (o * 2 + 0 + ((flat ps).map (Value.int .i64)).length)).toArray := ⟨_, rfl⟩
  rw [← hrow] at hst
  refine ⟨w.setRow g row, ?_, ⟨?_, ?_, ?_, ?_, h5⟩, ?_⟩
  rotate_left
  · simp only [List.length_append, List.length_take, List.length_drop]; omega
  · intro p hp
    rcases List.mem_append.1 hp with hp | hp
    · exact h2 p (List.mem_of_mem_take hp)
    · rcases List.mem_append.1 hp with hp | hp
      · exact hf p hp
      · exact h2 p (List.mem_of_mem_drop hp)
  · simpa [World.setRow] using h3
  · refine ⟨by rw [List.length_map, flat_len]; simp only [List.length_append, List.length_take, List.length_drop]; omega, .inr ⟨g, cap, row, rfl, hlo, setRow_heap w g cur _ 30 _ hg, hnc, hcm, ?_, ?_⟩⟩
    · rw [hrow]
      simp only [List.size_toArray, List.length_append, List.length_take, List.length_drop, Array.length_toList, hlen]; omega
    · have e := splice_take cur.toList ((flat xs).map (Value.int .i64)) ((flat ps).map (Value.int .i64)) (o * 2 + 0) (len * 2) htk (by rw [hlen]; omega) (by rw [Array.length_toList, hcs]; omega)
      rw [flat_append, flat_append, flat_take, flat_drop, List.map_append, List.map_append, List.map_take, List.map_drop]
      rw [hlen, Nat.add_zero] at e
      rw [show (o + ps.length) * 2 = o * 2 + ps.length * 2 by omega]
      rw [hrow, hlen, Nat.add_zero]
      exact e
  · exact ⟨rfl, rfl, rfl, by simp [World.setRow], fun k hk hne => setRow_other w g k _ (by omega)⟩
  · simp [Builtin.copy_, run_underlying hu, Builtin.lenOf, Builtin.firstCells, sizeOf, typeInfo, hi, hsize, ← hn]
    rw [hl]
    simp [hst]
theorem overR_repl (p z : Int × Int) {n k m : Nat} (h : k + m ≤ n) : (overR (List.replicate n p) (List.replicate n z) k).take k ++ (List.replicate m p ++ (overR (List.replicate n p) (List.replicate n z) k).drop (k + m)) = overR (List.replicate n p) (List.replicate n z) (k + m) := by
  have e : ∀ j, j ≤ n → overR (List.replicate n p) (List.replicate n z) j = List.replicate j p ++ List.replicate (n - j) z := fun j hj => by
    unfold overR
    rw [List.take_replicate, List.drop_replicate, Nat.min_eq_left hj]
  rw [e k (by omega), e (k + m) h, List.take_left' (by simp), List.drop_append, List.drop_of_length_le (by simp), List.nil_append, List.drop_replicate, List.length_replicate, ← List.append_assoc, List.replicate_append_replicate]
  congr 2
  omega
/-- A copy inside an own row of fractions, as a step of a region that draws its order. -/
theorem step_copy_ownR {P : Program} {ops : Array Oper} {o : Oper} {a : Act} {w : World} {K : Act → World → Prop} {Q : Exit → Act → World → Prop} {E : Prop} (hgd : o.guard = none) (d s : Operand) (dT sT : TypeId)
    (ho : o.op = .call { callee := .builtin .copy, args := #[d, s], argTypes := #[dT, sT] }) (i : TypeInfo) (hu : P.underlying dT = some (.slice 30)) (hi : P.info? 30 = some i) (hsize : i.size = 2) {lo hi2 g len cap : Nat} {xs : List (Int × Int)} (h : OwnR w lo hi2 (some ⟨g, 0, none⟩) len cap xs)
    (k dLen dCap : Nat) (ad : Addr) (sLen sCap : Nat) (hd : a.eval d = .slice (some ⟨g, k * 2, none⟩) dLen dCap) (hs : a.eval s = .slice (some ad) sLen sCap) (ps : List (Int × Int)) (hn : ps.length = Nat.min sLen dLen) (hfit : k + ps.length ≤ len) (hf : FitR ps) (hsrc : ∀ j v, ((flat ps).map (Value.int .i64))[j]? = some v → w.cell? (ad.add j) = some v)
    (hk : ∀ w', OwnR w' lo hi2 (some ⟨g, 0, none⟩) len cap (xs.take k ++ (ps ++ xs.drop (k + ps.length))) → Moved lo hi2 w w' → K (a.put o.dst (goInt ps.length)) w') :
    if Region.wanted o (yielded ops a.tmps) = true then Oper.wp P o a w K Q else E := by
  have hw : Region.wanted o (yielded ops a.tmps) = true := by simp [Region.wanted, hgd]
  rw [if_pos hw]
  obtain ⟨w', hr, h1, h2⟩ := run_copy_ownR (P := P) w dT sT o.type i hu hi hsize h k dLen dCap ad sLen sCap ps hn hfit hf hsrc
  unfold Oper.wp
  simp [execOp, ho, resolve, invoke, builtin, hd, hs, hr, Result.andThen]
  exact hk w' h1 h2
theorem wp_copy_ownR {P : Program} {w : World} {ops : Array Oper} {rest : List Oper} {o : Oper} {a : Act} {Q : Exit → Act → World → Prop} (hgd : o.guard = none) (d s : Operand) (dT sT : TypeId)
    (ho : o.op = .call { callee := .builtin .copy, args := #[d, s], argTypes := #[dT, sT] }) (i : TypeInfo) (hu : P.underlying dT = some (.slice 30)) (hi : P.info? 30 = some i) (hsize : i.size = 2) {lo hi2 g len cap : Nat} {xs : List (Int × Int)} (h : OwnR w lo hi2 (some ⟨g, 0, none⟩) len cap xs)
    (k dLen dCap : Nat) (ad : Addr) (sLen sCap : Nat) (hd : a.eval d = .slice (some ⟨g, k * 2, none⟩) dLen dCap) (hs : a.eval s = .slice (some ad) sLen sCap) (ps : List (Int × Int)) (hn : ps.length = Nat.min sLen dLen) (hfit : k + ps.length ≤ len) (hf : FitR ps) (hsrc : ∀ j v, ((flat ps).map (Value.int .i64))[j]? = some v → w.cell? (ad.add j) = some v)
    (hk : ∀ w', OwnR w' lo hi2 (some ⟨g, 0, none⟩) len cap (xs.take k ++ (ps ++ xs.drop (k + ps.length))) → Moved lo hi2 w w' → wpList P ops Q rest (a.put o.dst (goInt ps.length)) w') : wpList P ops Q (o :: rest) a w := by
  obtain ⟨w', hr, h1, h2⟩ := run_copy_ownR (P := P) w dT sT o.type i hu hi hsize h k dLen dCap ad sLen sCap ps hn hfit hf hsrc
  refine wpList_plain hgd fun K hK => ?_
  unfold Oper.wp
  simp [execOp, ho, resolve, invoke, builtin, hd, hs, hr, Result.andThen]
  exact hK _ _ (hk w' h1 h2)
theorem SeesR.src {w : World} {b off len : Nat} {xs : List (Int × Int)} (h : SeesR w (some ⟨b, off, none⟩) len xs) (m : Nat) : ∀ j v, ((flat (xs.take m)).map (Value.int .i64))[j]? = some v → w.cell? ((⟨b, off, none⟩ : Addr).add j) = some v := by
  intro j v hv
  rw [flat_take, List.map_take, List.getElem?_take] at hv
  split at hv
  · rename_i hj
    have hlt := (List.getElem?_eq_some_iff.1 hv).1
    rw [List.length_map, flat_len, h.1] at hlt
    rcases h.2.2 with h0 | ⟨b2, o2, ha, _, hc⟩
    · omega
    · cases ha
      obtain ⟨k, hk⟩ : ∃ k, j = k * 2 ∨ j = k * 2 + 1 := ⟨j / 2, by omega⟩
      have hcell := hc k (by omega)
      rw [List.getElem?_map] at hv
      rw [add_plain]
      rcases hk with rfl | rfl
      · rw [flat_num xs k (by rw [h.1]; omega)] at hv
        rw [hcell.1, ← hv]
        rfl
      · rw [flat_den xs k (by rw [h.1]; omega)] at hv
        rw [← Nat.add_assoc, hcell.2, ← hv]
        rfl
  · cases hv
theorem overR_front (p z : Int × Int) {n k m : Nat} (h : k ≤ n) (hm : m ≤ k) : (overR (List.replicate n p) (List.replicate n z) k).take m = List.replicate m p := by
  unfold overR
  rw [List.take_replicate, Nat.min_eq_left h, List.take_append_of_le_length (by simpa using hm), List.take_replicate, Nat.min_eq_left hm]
theorem fit_repl {n : Nat} : FitR (List.replicate n ((0, 1) : Int × Int)) := fun p hp => by
  rw [List.eq_of_mem_replicate hp]
  exact ⟨by decide, by decide⟩
theorem copy_first (w1 : World) (lo hi2 g b n : Nat) (h1 : 1 ≤ n) (HO : OwnR w1 lo hi2 (some ⟨g, 0, none⟩) n n (List.replicate n (0, 0))) (HS : SeesR w1 (some ⟨b, 0, none⟩) 1 [(0, 1)]) :
    ∃ w2, (Builtin.copy_ #[53, 53] 3 #[.slice (some ⟨g, 0, none⟩) n n, .slice (some ⟨b, 0, none⟩) 1 1]).run Try.prog w1 = .ok (.int .i64 1) w2 ∧ OwnR w2 lo hi2 (some ⟨g, 0, none⟩) n n (overR (List.replicate n (0, 1)) (List.replicate n (0, 0)) 1) ∧ Moved lo hi2 w1 w2 := by
  obtain ⟨i0, hi, _, hz1, _⟩ := info_parts info_rat
  obtain ⟨w2, hr, ho, hm⟩ := run_copy_ownR (P := Try.prog) w1 53 53 3 i0 Try.underlying53 hi hz1 HO 0 n n ⟨b, 0, none⟩ 1 1 (List.replicate 1 (0, 1)) (by rw [List.length_replicate]; exact (Nat.min_eq_left h1).symm) (by rw [List.length_replicate]; omega) fit_repl (HS.src 1)
  have e := overR_repl (0, 1) (0, 0) (n := n) (k := 0) (m := 1) (by omega)
  rw [overR_zero] at e
  rw [List.length_replicate, e] at ho
  exact ⟨w2, hr, ho, hm⟩
theorem copy_next (wr : World) (lo hi2 g n k m : Nat) (hk : k ≤ n) (hm : m = Nat.min k (n - k)) (HO : OwnR wr lo hi2 (some ⟨g, 0, none⟩) n n (overR (List.replicate n (0, 1)) (List.replicate n (0, 0)) k)) :
    ∃ w3, (Builtin.copy_ #[53, 53] 3 #[.slice (some ⟨g, k * 2, none⟩) (n - k) (n - k), .slice (some ⟨g, 0, none⟩) k n]).run Try.prog wr = .ok (.int .i64 (m : Int)) w3 ∧ OwnR w3 lo hi2 (some ⟨g, 0, none⟩) n n (overR (List.replicate n (0, 1)) (List.replicate n (0, 0)) (k + m)) ∧ Moved lo hi2 wr w3 := by
  obtain ⟨i0, hi, _, hz1, _⟩ := info_parts info_rat
  have h1 : m ≤ k := by rw [hm]; exact Nat.min_le_left _ _
  have h2 : m ≤ n - k := by rw [hm]; exact Nat.min_le_right _ _
  have hs := HO.sees.src m
  rw [overR_front _ _ hk h1] at hs
  obtain ⟨w2, hr, ho, hmv⟩ := run_copy_ownR (P := Try.prog) wr 53 53 3 i0 Try.underlying53 hi hz1 HO k (n - k) (n - k) ⟨g, 0, none⟩ k n (List.replicate m (0, 1)) (by rw [List.length_replicate]; exact hm) (by rw [List.length_replicate]; omega) fit_repl hs
  rw [List.length_replicate] at hr
  rw [List.length_replicate, overR_repl _ _ (by omega)] at ho
  exact ⟨w2, hr, ho, hmv⟩
end Go.Proofs.Ytedkeobhcpbigaa
