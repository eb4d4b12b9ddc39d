/- A slice of rows whose outer row is the call's own, and whose inner rows are only seen. -/
import Derived.Test.YtedkeobhcpbigaaSlA
import Derived.Deep.AppendLies
namespace Go.Proofs.Ytedkeobhcpbigaa
open Go.RowKit
/-- The outer row is the call's own, from lo on; the rows in it are seen and lie elsewhere. -/
def HoldM (w : World) (lo : Nat) (a : Option Addr) (len cap : Nat) (ms : List (List Int)) : Prop :=
  ms.length = len ∧ ∃ A C, w.ownsRow lo 25 1 (.slice a len cap) len (heads A C ms) ∧
    ∀ r, r < len → (row ms r).length ≤ C r ∧ C r ≤ maxLen ∧ Sees .i64 w (A r) (row ms r).length (row ms r) ∧ ∀ x, A r = some x → (lo ≤ x.block ∧ x.block < w.heap.size) ∧ ∀ y, a = some y → x.block ≠ y.block
theorem HoldM.spot {w : World} {lo : Nat} {a : Option Addr} {len cap : Nat} {ms : List (List Int)} (h : HoldM w lo a len cap ms) {r : Nat} (hr : r < len) :
    ∃ g ar cr, a = some ⟨g, 0, none⟩ ∧ lo ≤ g ∧ g < w.heap.size ∧ w.cell? ⟨g, r, none⟩ = some (.slice ar (row ms r).length cr) ∧ w.frozen? ⟨g, r, none⟩ = false ∧
      (row ms r).length ≤ cr ∧ cr ≤ maxLen ∧ Sees .i64 w ar (row ms r).length (row ms r) ∧ ∀ x, ar = some x → (lo ≤ x.block ∧ x.block < w.heap.size) ∧ x.block ≠ g := by
  obtain ⟨h1, A, C, h2, h3⟩ := h
  rcases ownsRow_spot h2 with ⟨_, h0⟩ | ⟨g, rfl, hlo, hg, _, _, hc, hf⟩
  · omega
  · obtain ⟨q1, q2, q3, q4⟩ := h3 r hr
    refine ⟨g, A r, C r, rfl, hlo, hg, ?_, hf r, q1, q2, q3, fun x hx => ⟨(q4 x hx).1, (q4 x hx).2 _ rfl⟩⟩
    rw [hc r hr, heads_at (by omega)]
theorem HoldM.sees {w : World} {lo : Nat} {a : Option Addr} {len cap : Nat} {ms : List (List Int)} (h : HoldM w lo a len cap ms) : SeesM w a len ms := by
  refine ⟨h.1, fun r hr => ?_⟩
  obtain ⟨g, ar, cr, ha, _, hg, hc, _, h1, h2, h3, _⟩ := h.spot hr
  exact ⟨g, 0, ar, cr, ha, hg, by rw [Nat.zero_add]; exact hc, h1, h2, h3⟩
theorem HoldM.below {w w' : World} {lo : Nat} {a : Option Addr} {len cap : Nat} {ms : List (List Int)} (h : HoldM w lo a len cap ms) (hb : Below w.heap.size w w') : HoldM w' lo a len cap ms := by
  obtain ⟨h1, A, C, h2, h3⟩ := h
  have hm : Moved w.heap.size w.heap.size w w' := Moved.of_below hb
  refine ⟨h1, A, C, ownsRow_kept h2 hm (fun x _ => by omega), fun r hr => ?_⟩
  obtain ⟨q1, q2, q3, q4⟩ := h3 r hr
  exact ⟨q1, q2, q3.below hb, fun x hx => ⟨⟨(q4 x hx).1.1, Nat.lt_of_lt_of_le (q4 x hx).1.2 hb.size⟩, (q4 x hx).2⟩⟩
theorem HoldM.wide {w : World} {lo lo2 : Nat} {a : Option Addr} {len cap : Nat} {ms : List (List Int)} (h : HoldM w lo a len cap ms) (hl : lo2 ≤ lo) : HoldM w lo2 a len cap ms := by
  obtain ⟨h1, A, C, h2, h3⟩ := h
  exact ⟨h1, A, C, ownsRow_wide h2 hl, fun r hr => by
    obtain ⟨q1, q2, q3, q4⟩ := h3 r hr
    exact ⟨q1, q2, q3, fun x hx => ⟨⟨Nat.le_trans hl (q4 x hx).1.1, (q4 x hx).1.2⟩, (q4 x hx).2⟩⟩⟩
theorem HoldM.outer {w : World} {lo : Nat} {a : Option Addr} {len cap : Nat} {ms : List (List Int)} (h : HoldM w lo a len cap ms) {y : Addr} (hy : a = some y) : y.block < w.heap.size ∧ lo ≤ y.block := by
  obtain ⟨_, A, C, h2, _⟩ := h
  rcases ownsRow_spot h2 with ⟨h0, _⟩ | ⟨g, ha, hlo, hg, _⟩
  · rw [h0] at hy; cases hy
  · rw [ha] at hy; cases hy; exact ⟨hg, hlo⟩
theorem HoldM.cap {w : World} {lo : Nat} {a : Option Addr} {len cap : Nat} {ms : List (List Int)} (h : HoldM w lo a len cap ms) : len ≤ cap := by
  obtain ⟨_, A, C, h2, _⟩ := h
  rcases h2.2 with ⟨hv, hn⟩ | ⟨g, c, cur, hv, _, _, hnc, _⟩
  · omega
  · simp only [Value.slice.injEq, true_and] at hv
    omega
theorem HoldM.capMax {w : World} {lo : Nat} {a : Option Addr} {len cap : Nat} {ms : List (List Int)} (h : HoldM w lo a len cap ms) : cap ≤ maxLen := by
  obtain ⟨_, A, C, h2, _⟩ := h
  rcases h2.2 with ⟨hv, hn⟩ | ⟨g, c, cur, hv, _, _, _, hcm, _⟩
  · simp only [Value.slice.injEq] at hv
    omega
  · simp only [Value.slice.injEq, true_and] at hv
    omega
/-- A row that is seen is put into place k. -/
theorem HoldM.put {w : World} {lo g : Nat} {len cap : Nat} {ms : List (List Int)} (h : HoldM w lo (some ⟨g, 0, none⟩) len cap ms) {ar : Option Addr} {cr : Nat} {z : List Int} (hz : Sees .i64 w ar z.length z) (hc : z.length ≤ cr) (hm : cr ≤ maxLen)
    (ha : ∀ x, ar = some x → (lo ≤ x.block ∧ x.block < w.heap.size) ∧ x.block ≠ g) {k : Nat} (hk : k < len) :
    HoldM (w.setCell ⟨g, k, none⟩ (.slice ar z.length cr)) lo (some ⟨g, 0, none⟩) len cap (ms.set k z) ∧ Below lo w (w.setCell ⟨g, k, none⟩ (.slice ar z.length cr)) := by
  have hsp := h.spot hk
  obtain ⟨h1, A, C, h2, h3⟩ := h
  have hlo : lo ≤ g := by
    obtain ⟨g', _, _, hg', hl, _⟩ := hsp
    cases hg'
    exact hl
  obtain ⟨s1, s2⟩ := h2.stored k (.slice ar z.length cr)
  have hmg : Moved g (g + 1) w (w.setCell ⟨g, k, none⟩ (.slice ar z.length cr)) := Moved.of_grown s2 (Nat.le_refl _) (by omega)
  refine ⟨⟨by simpa using h1, fun r => if r = k then ar else A r, fun r => if r = k then cr else C r, ?_, fun r hr => ?_⟩, ?_⟩
  · have e : (heads A C ms).set k (.slice ar z.length cr) = heads (fun r => if r = k then ar else A r) (fun r => if r = k then cr else C r) (ms.set k z) := by
      apply List.ext_getElem?
      intro i
      by_cases hi : i < ms.length
      · rw [heads_at (by simpa using hi), List.getElem?_set]
        by_cases hik : k = i
        · subst hik
          rw [if_pos rfl, if_pos (by rw [heads_len]; exact hi), row_set_same hi]
          simp
        · rw [if_neg hik, heads_at hi, row_set_other (fun e => hik e.symm)]
          rw [if_neg (fun e => hik e.symm), if_neg (fun e => hik e.symm)]
      · rw [List.getElem?_eq_none (by rw [List.length_set, heads_len]; omega), List.getElem?_eq_none (by rw [heads_len, List.length_set]; omega)]
    rw [← e]
    exact s1
  · by_cases hrk : r = k
    · subst hrk
      simp only [if_true]
      rw [row_set_same (by omega)]
      refine ⟨hc, hm, hz.moved hmg (fun x hx => by have := (ha x hx).2; omega), fun x hx => ⟨⟨(ha x hx).1.1, by have := (ha x hx).1.2; simpa [World.setCell] using this⟩, fun y hy => by cases hy; exact (ha x hx).2⟩⟩
    · simp only [hrk, if_false]
      rw [row_set_other hrk]
      obtain ⟨q1, q2, q3, q4⟩ := h3 r hr
      exact ⟨q1, q2, q3.moved hmg (fun x hx => by have := (q4 x hx).2 _ rfl; simp only at this; omega), fun x hx => ⟨⟨(q4 x hx).1.1, by have := (q4 x hx).1.2; simpa [World.setCell] using this⟩, (q4 x hx).2⟩⟩
  · exact (Moved.of_grown (lo := g) (hi := g + 1) s2 (Nat.le_refl _) (by omega)).below hlo (by omega)
/-- A literal of no row. -/
theorem hold_nil (w : World) : HoldM (w.alloc (.cells #[] 25)) w.heap.size (some ⟨w.heap.size, 0, none⟩) 0 0 [] :=
  ⟨rfl, fun _ => none, fun _ => 0, ⟨rfl, .inr ⟨w.heap.size, 0, #[], rfl, Nat.le_refl _, heap_alloc_new w _, Nat.le_refl _, Nat.zero_le _, rfl, rfl⟩⟩, fun r hr => by omega⟩
theorem row_append_left {ms : List (List Int)} {z : List Int} {r : Nat} (h : r < ms.length) : row (ms ++ [z]) r = row ms r := by
  unfold row List.getD
  rw [List.getElem?_append_left h]
theorem row_append_last {ms : List (List Int)} {z : List Int} : row (ms ++ [z]) ms.length = z := by simp [row, List.getD]
/-- A row that is seen goes behind. -/
theorem run_append_hold {P : Program} (w : World) (t ty : TypeId) (i : TypeInfo) (ht : P.underlying t = some (.slice 25)) (hi : P.info? 25 = some i)
    (hz : i.zero = some (.slice none 0 0)) (hsize : i.size = 1) (hby : i.bytes = 24) (a1 : Option Addr) (len1 cap1 : Nat) (ms : List (List Int)) (lo : Nat) (hold : HoldM w lo a1 len1 cap1 ms)
    (b : Nat) (ar : Option Addr) (cr : Nat) (z : List Int) (hc : w.cell? ⟨b, 0, none⟩ = some (.slice ar z.length cr)) (hs : Sees .i64 w ar z.length z) (h1 : z.length ≤ cr) (h2 : cr ≤ maxLen)
    (ha : ∀ x, ar = some x → (lo ≤ x.block ∧ x.block < w.heap.size) ∧ ∀ y, a1 = some y → x.block ≠ y.block) (h63 : len1 + 1 ≤ 1073741824) (hlo : lo ≤ w.heap.size) :
    ∃ g cap' w', (Builtin.append_ #[t, t] ty #[.slice a1 len1 cap1, .slice (some ⟨b, 0, none⟩) 1 1]).run P w = .ok (.slice (some ⟨g, 0, none⟩) (len1 + 1) cap') w' ∧ HoldM w' lo (some ⟨g, 0, none⟩) (len1 + 1) cap' (ms ++ [z]) ∧ Below lo w w' ∧ (∀ k, k < w.heap.size → (∀ y, a1 = some y → k ≠ y.block) → w'.heap[k]? = w.heap[k]?) ∧ ((∃ y, a1 = some y ∧ y.block = g) ∨ g = w.heap.size) := by
  obtain ⟨e1, A, C, e2, e3⟩ := hold
  obtain ⟨g, cap', w', hr, o1, o2, o3, o4⟩ := run_append_lies (P := P) w t ty lo 25 i (.slice none 0 0) 1 24 ht hi hz hsize hby rfl (by decide) _ len1 _ e2 ⟨b, 0, none⟩ 1 1 [.slice ar z.length cr] rfl (fun j u hu => by
      obtain rfl : j = 0 := by have := (List.getElem?_eq_some_iff.1 hu).1; simp at this; omega
      simp at hu
      subst hu
      rw [add_plain]
      exact hc) (fun u hu => by rw [List.mem_singleton] at hu; subst hu; rfl) (by decide) (by unfold maxLen; omega) (by omega) hlo _ rfl
  -- which block may have turned
  have hmv : ∃ lo2 hi2, Moved lo2 hi2 w w' ∧ lo ≤ lo2 ∧ (∀ x, lo2 ≤ x → x < hi2 → x < w.heap.size → ∃ y, a1 = some y ∧ y.block = x) := by
    cases a1 with
    | none => exact ⟨lo, lo, ⟨o2.os, o2.tape, o2.output, o2.size, fun k hk _ => o2.block k hk (by simp [Value.ownBlock])⟩, Nat.le_refl _, fun x h1 h2 => by omega⟩
    | some y =>
      rcases ownsRow_spot e2 with ⟨hx, _⟩ | ⟨g', hx, hl, _, _⟩
      · cases hx
      · cases hx
        exact ⟨g', g' + 1, Moved.of_grown o2 (Nat.le_refl _) (Nat.lt_succ_self _), hl, fun x h1 h2 _ => ⟨_, rfl, by simp only; omega⟩⟩
  obtain ⟨lo2, hi2, hmv, hl2, hin⟩ := hmv
  have hoff : ∀ x : Addr, x.block < w.heap.size → (∀ y, a1 = some y → x.block ≠ y.block) → ¬ (lo2 ≤ x.block ∧ x.block < hi2) := fun x hx hne h => by
    obtain ⟨y, hy, he⟩ := hin x.block h.1 h.2 hx
    exact hne y hy he.symm
  have hng : ∀ x : Addr, x.block < w.heap.size → (∀ y, a1 = some y → x.block ≠ y.block) → x.block ≠ g := fun x hx hne he => by
    rcases o3 with o3 | o3
    · cases a1 with
      | none => simp [Value.ownBlock] at o3
      | some y =>
        simp only [Value.ownBlock, Option.some.injEq] at o3
        exact hne y rfl (by omega)
    · omega
  refine ⟨g, cap', w', hr, ⟨by simp [e1], fun r => if r = len1 then ar else A r, fun r => if r = len1 then cr else C r, ?_, fun r hr2 => ?_⟩, hmv.below hl2 (by omega), fun k hk hne => hmv.block k hk (hoff ⟨k, 0, none⟩ hk hne), ?_⟩
  · have e : heads A C ms ++ [.slice ar z.length cr] = heads (fun r => if r = len1 then ar else A r) (fun r => if r = len1 then cr else C r) (ms ++ [z]) := by
      apply List.ext_getElem?
      intro j
      rcases Nat.lt_trichotomy j len1 with hj | hj | hj
      · rw [List.getElem?_append_left (by rw [heads_len]; omega), heads_at (by omega), heads_at (by simp; omega), row_append_left (by omega), if_neg (by omega), if_neg (by omega)]
      · subst hj
        rw [List.getElem?_append_right (by rw [heads_len]; omega), heads_at (by simp; omega), if_pos rfl, if_pos rfl, ← e1, row_append_last, heads_len]
        simp
      · rw [List.getElem?_eq_none (by simp [heads_len]; omega), List.getElem?_eq_none (by rw [heads_len]; simp; omega)]
    rw [← e]
    exact o1
  · by_cases hrl : r = len1
    · subst hrl
      simp only [if_true]
      rw [← e1, row_append_last]
      exact ⟨h1, h2, hs.moved hmv (fun x hx => hoff x (ha x hx).1.2 (ha x hx).2), fun x hx => ⟨⟨(ha x hx).1.1, Nat.lt_of_lt_of_le (ha x hx).1.2 o2.size⟩, fun y hy => by cases hy; exact hng x (ha x hx).1.2 (ha x hx).2⟩⟩
    · have hr3 : r < len1 := by omega
      simp only [hrl, if_false]
      rw [row_append_left (by omega)]
      obtain ⟨q1, q2, q3, q4⟩ := e3 r hr3
      exact ⟨q1, q2, q3.moved hmv (fun x hx => hoff x (q4 x hx).1.2 (q4 x hx).2), fun x hx => ⟨⟨(q4 x hx).1.1, Nat.lt_of_lt_of_le (q4 x hx).1.2 o2.size⟩, fun y hy => by cases hy; exact hng x (q4 x hx).1.2 (q4 x hx).2⟩⟩
  · rcases o3 with o3 | o3
    · cases a1 with
      | none => simp [Value.ownBlock] at o3
      | some y =>
        simp only [Value.ownBlock, Option.some.injEq] at o3
        exact .inl ⟨y, rfl, o3⟩
    · exact .inr o3
theorem wp_append_hold {P : Program} {w : World} {ops : Array Oper} {rest : List Oper} {o : Oper} {act : Act} {Q : Exit → Act → World → Prop} (hgd : o.guard = none) (s x : Operand) (t : TypeId)
    (ho : o.op = .call { callee := .builtin .append, args := #[s, x], argTypes := #[t, t] }) (i : TypeInfo) (ht : P.underlying t = some (.slice 25)) (hi : P.info? 25 = some i)
    (hz : i.zero = some (.slice none 0 0)) (hsize : i.size = 1) (hby : i.bytes = 24) (a1 : Option Addr) (len1 cap1 : Nat) (hsv : act.eval s = .slice a1 len1 cap1) (b : Nat) (hxv : act.eval x = .slice (some ⟨b, 0, none⟩) 1 1) (ms : List (List Int)) (lo : Nat) (hold : HoldM w lo a1 len1 cap1 ms)
    (ar : Option Addr) (cr : Nat) (z : List Int) (hc : w.cell? ⟨b, 0, none⟩ = some (.slice ar z.length cr)) (hs : Sees .i64 w ar z.length z) (h1 : z.length ≤ cr) (h2 : cr ≤ maxLen)
    (ha : ∀ x, ar = some x → (lo ≤ x.block ∧ x.block < w.heap.size) ∧ ∀ y, a1 = some y → x.block ≠ y.block) (h63 : len1 + 1 ≤ 1073741824) (hlo : lo ≤ w.heap.size)
    (h : ∀ g cap' w', HoldM w' lo (some ⟨g, 0, none⟩) (len1 + 1) cap' (ms ++ [z]) → Below lo w w' → (∀ k, k < w.heap.size → (∀ y, a1 = some y → k ≠ y.block) → w'.heap[k]? = w.heap[k]?) → ((∃ y, a1 = some y ∧ y.block = g) ∨ g = w.heap.size) → wpList P ops Q rest (act.put o.dst (.slice (some ⟨g, 0, none⟩) (len1 + 1) cap')) w') : wpList P ops Q (o :: rest) act w := by
  obtain ⟨g, cap', w', hr, k1, k2, k3, k4⟩ := run_append_hold (P := P) w t o.type i ht hi hz hsize hby a1 len1 cap1 ms lo hold b ar cr z hc hs h1 h2 ha h63 hlo
  refine wpList_plain hgd fun K hK => ?_
  unfold Oper.wp execOp
  simp only [ho, resolve, invoke, builtin, Sem.run_bind, Sem.run_pure, Result.andThen_ok, List.map_toArray, List.map_cons, List.map_nil, hsv, hxv, hr]
  exact hK _ _ (h g cap' w' k1 k2 k3 k4)
/-- Rows that are seen, all in blocks from lo up to hi. -/
def SeesF (w : World) (lo hi : Nat) (a : Option Addr) (len : Nat) (ms : List (List Int)) : Prop :=
  ms.length = len ∧ ∀ r, r < len → ∃ b off ar cr, a = some ⟨b, off, none⟩ ∧ (lo ≤ b ∧ b < hi) ∧ hi ≤ w.heap.size ∧ w.cell? ⟨b, off + r, none⟩ = some (.slice ar (row ms r).length cr) ∧ (row ms r).length ≤ cr ∧ cr ≤ maxLen ∧ Sees .i64 w ar (row ms r).length (row ms r) ∧
    ∀ x, ar = some x → lo ≤ x.block ∧ x.block < hi
theorem SeesF.sees {w : World} {lo hi : Nat} {a : Option Addr} {len : Nat} {ms : List (List Int)} (h : SeesF w lo hi a len ms) : SeesM w a len ms := by
  refine ⟨h.1, fun r hr => ?_⟩
  obtain ⟨b, off, ar, cr, ha, hb, hh, hc, h1, h2, h3, _⟩ := h.2 r hr
  exact ⟨b, off, ar, cr, ha, by omega, hc, h1, h2, h3⟩
theorem SeesF.keep {w w' : World} {lo hi : Nat} {a : Option Addr} {len : Nat} {ms : List (List Int)} (h : SeesF w lo hi a len ms) (hk : ∀ k, lo ≤ k → k < hi → w'.heap[k]? = w.heap[k]?) (hs : hi ≤ w'.heap.size) : SeesF w' lo hi a len ms := by
  refine ⟨h.1, fun r hr => ?_⟩
  obtain ⟨b, off, ar, cr, ha, hb, hh, hc, h1, h2, ⟨s1, s2, s3⟩, h4⟩ := h.2 r hr
  refine ⟨b, off, ar, cr, ha, hb, hs, (World.cell?_of_block (w := w) (a := ⟨b, off + r, none⟩) (hk b hb.1 hb.2)).trans hc, h1, h2, ⟨s1, s2, ?_⟩, h4⟩
  rcases s3 with s3 | ⟨b2, o2, ha2, hlt, hc2⟩
  · exact .inl s3
  · have := h4 _ ha2
    simp only at this
    exact .inr ⟨b2, o2, ha2, by omega, fun j hj => (World.cell?_of_block (w := w) (a := ⟨b2, o2 + j, none⟩) (hk b2 this.1 this.2)).trans (hc2 j hj)⟩
theorem SeesF.moved {w w' : World} {lo hi lo2 hi2 : Nat} {a : Option Addr} {len : Nat} {ms : List (List Int)} (h : SeesF w lo hi a len ms) (hm : Moved lo2 hi2 w w') (ho : hi ≤ lo2 ∨ hi2 ≤ lo) : SeesF w' lo hi a len ms := by
  rcases Nat.eq_zero_or_pos len with h0 | h0
  · subst h0; exact ⟨h.1, fun r hr => absurd hr (Nat.not_lt_zero _)⟩
  · obtain ⟨_, _, _, _, _, _, hh, _⟩ := h.2 0 h0
    exact h.keep (fun k h1 h2 => hm.block k (by omega) (by omega)) (Nat.le_trans hh hm.size)
theorem SeesF.below {w w' : World} {lo hi : Nat} {a : Option Addr} {len : Nat} {ms : List (List Int)} (h : SeesF w lo hi a len ms) (hb : Below w.heap.size w w') : SeesF w' lo hi a len ms :=
  h.moved (Moved.of_below (lo := hi) (hi := hi) hb) (.inl (Nat.le_refl _))
theorem HoldM.seesF {w : World} {lo : Nat} {a : Option Addr} {len cap : Nat} {ms : List (List Int)} (h : HoldM w lo a len cap ms) : SeesF w lo w.heap.size a len ms := by
  refine ⟨h.1, fun r hr => ?_⟩
  obtain ⟨g, ar, cr, ha, hl, hg, hc, _, h1, h2, h3, h4⟩ := h.spot hr
  exact ⟨g, 0, ar, cr, ha, ⟨hl, hg⟩, Nat.le_refl _, by rw [Nat.zero_add]; exact hc, h1, h2, h3, fun x hx => (h4 x hx).1⟩
/-- What a call leaves whose result is rows that are seen. -/
def SeenM (ms : List (List Int)) (w : World) (E : Ending) (w' : World) : Prop :=
  ∃ a len cap, E = .returned (.slice a len cap) ∧ SeesF w' w.heap.size w'.heap.size a len ms ∧ len ≤ cap ∧ cap ≤ maxLen ∧ Below w.heap.size w w'
end Go.Proofs.Ytedkeobhcpbigaa
