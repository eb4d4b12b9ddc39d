/- Slices of numbers: what is seen of one, and what a call owns. -/
import Derived.Test.YtedkeobhcpbigaaProg
import Derived.Test.YtedkeobhcpbigaaRow
import Derived.WalkKit
import Derived.ProofKit
import Derived.Lib.Hide
import Derived.Laws.CopyOwn
import Derived.Laws.AppendOwnNone
import Derived.BigQuiet
namespace Go.Proofs.Ytedkeobhcpbigaa
open Go.RowKit
/-- The slice's elements are the numbers zs. -/
def Sees (k : IntKind) (w : World) (a : Option Addr) (len : Nat) (zs : List Int) : Prop :=
  zs.length = len ∧ (∀ n ∈ zs, (Lit.int k n).wf = true) ∧
    (len = 0 ∨ ∃ b off, a = some ⟨b, off, none⟩ ∧ b < w.heap.size ∧ ∀ j, j < len → w.cell? ⟨b, off + j, none⟩ = some (.int k (zs.getD j 0)))
theorem row_sees {k : IntKind} {W : World} {a : Option Addr} {len cap : Nat} {zs : List Int} (h : IsRow k W a len cap zs) : Sees k W a len (zs.take len) := by
  have hl : len ≤ zs.length := by
    rcases h with ⟨_, h0, _, _⟩ | ⟨x, _, h1, _, h3, _⟩ <;> omega
  have hw : ∀ n ∈ zs, (Lit.int k n).wf = true := by
    rcases h with ⟨_, _, _, rfl⟩ | ⟨x, _, _, _, _, _, h5⟩
    · intro n hn; cases hn
    · exact h5
  refine ⟨by simp; omega, fun n hn => hw n (List.mem_of_mem_take hn), ?_⟩
  rcases row_spot h with h0 | ⟨b, off, rfl, hb, h1, h2, h3, h4, h5⟩
  · exact .inl h0
  · refine .inr ⟨b, off, rfl, hb, fun j hj => ?_⟩
    rw [h4 j (by omega)]
    simp [List.getD, hj]
theorem Sees.below {k : IntKind} {w w' : World} {a : Option Addr} {len : Nat} {zs : List Int} (h : Sees k w a len zs) (hb : Below w.heap.size w w') : Sees k w' a len zs := by
  obtain ⟨h1, h2, h3⟩ := h
  refine ⟨h1, h2, ?_⟩
  rcases h3 with h3 | ⟨b, off, ha, hlt, hc⟩
  · exact .inl h3
  · exact .inr ⟨b, off, ha, Nat.lt_of_lt_of_le hlt hb.size, fun j hj => (hb.cell (p := ⟨b, off + j, none⟩) hlt).trans (hc j hj)⟩
/-- Only blocks from lo up to hi have turned, or are new. -/
structure Moved (lo hi : Nat) (w w' : World) : Prop where
  os : w'.os = w.os
  tape : w'.tape = w.tape
  output : w'.output = w.output
  size : w.heap.size ≤ w'.heap.size
  block : ∀ k, k < w.heap.size → ¬ (lo ≤ k ∧ k < hi) → w'.heap[k]? = w.heap[k]?
theorem Moved.of_below {lo hi : Nat} {w w' : World} (h : Below w.heap.size w w') : Moved lo hi w w' := ⟨h.os, h.tape, h.output, h.size, fun k hk _ => h.block k hk⟩
theorem Moved.below {lo hi B : Nat} {w w' : World} (h : Moved lo hi w w') (h1 : B ≤ lo) (h2 : B ≤ w.heap.size) : Below B w w' := ⟨h.os, h.tape, h.output, h.size, fun k hk => h.block k (by omega) (by omega)⟩
theorem Moved.trans {lo hi : Nat} {a b c : World} (h : Moved lo hi a b) (g : Moved lo hi b c) : Moved lo hi a c :=
  ⟨g.os.trans h.os, g.tape.trans h.tape, g.output.trans h.output, Nat.le_trans h.size g.size, fun k hk hne => (g.block k (Nat.lt_of_lt_of_le hk h.size) hne).trans (h.block k hk hne)⟩
theorem Moved.refl (lo hi : Nat) (w : World) : Moved lo hi w w := ⟨rfl, rfl, rfl, Nat.le_refl _, fun _ _ _ => rfl⟩
theorem Moved.of_grown {lo hi g : Nat} {w w' : World} (h : w.grownBy w' (some g)) (h1 : lo ≤ g) (h2 : g < hi) : Moved lo hi w w' :=
  ⟨h.os, h.tape, h.output, h.size, fun k hk hne => h.block k hk (by simp; omega)⟩
theorem Moved.drewN (lo hi : Nat) (w : World) (n : Nat) : Moved lo hi w (w.drewN n) := ⟨rfl, rfl, rfl, Nat.le_refl _, fun _ _ _ => rfl⟩
theorem below_none {B : Nat} {w w' : World} (h : Below B w w') (hB : w.heap.size ≤ B) : w.grownBy w' none := ⟨h.os, h.tape, h.output, h.size, fun k hk _ => h.block k (by omega)⟩
theorem below_up {B : Nat} {w0 w w' : World} (h : Below B w0 w) (g : Below w.heap.size w w') (hB : B ≤ w0.heap.size) : Below B w0 w' := h.trans (g.mono (Nat.le_trans hB h.size))
theorem below_moved {B lo hi : Nat} {w0 w w' : World} (h : Below B w0 w) (g : Moved lo hi w w') (hB : B ≤ w0.heap.size) (hl : B ≤ lo) : Below B w0 w' := h.trans (g.below hl (Nat.le_trans hB h.size))
theorem Sees.moved {k : IntKind} {w w' : World} {a : Option Addr} {len lo hi : Nat} {zs : List Int} (h : Sees k w a len zs) (hm : Moved lo hi w w') (ho : ∀ x, a = some x → ¬ (lo ≤ x.block ∧ x.block < hi)) : Sees k w' a len zs := by
  obtain ⟨h1, h2, h3⟩ := h
  refine ⟨h1, h2, ?_⟩
  rcases h3 with h3 | ⟨b, off, ha, hlt, hc⟩
  · exact .inl h3
  · exact .inr ⟨b, off, ha, Nat.lt_of_lt_of_le hlt hm.size, fun j hj => (World.cell?_of_block (w := w) (a := ⟨b, off + j, none⟩) (hm.block b hlt (ho _ ha))).trans (hc j hj)⟩
/-- A row of the call's own: its block lies from lo up to hi; its first elements are zs. -/
def Own (k : IntKind) (e : TypeId) (w : World) (lo hi : Nat) (a : Option Addr) (len cap : Nat) (zs : List Int) : Prop :=
  zs.length = len ∧ (∀ n ∈ zs, (Lit.int k n).wf = true) ∧ hi ≤ w.heap.size ∧ w.ownsRow lo e 1 (.slice a len cap) len (zs.map (.int k)) ∧ (∀ x, a = some x → lo ≤ x.block ∧ x.block < hi)
theorem Own.len {k : IntKind} {e : TypeId} {w : World} {lo hi : Nat} {a : Option Addr} {len cap : Nat} {zs : List Int} (h : Own k e w lo hi a len cap zs) : zs.length = len := h.1
theorem getD_map_int {k : IntKind} {zs : List Int} {j : Nat} (h : j < zs.length) : (zs.map (Value.int k))[j]? = some (.int k (zs.getD j 0)) := by
  simp [List.getD, h]
theorem Own.spot {k : IntKind} {e : TypeId} {w : World} {lo hi : Nat} {a : Option Addr} {len cap : Nat} {zs : List Int} (h : Own k e w lo hi a len cap zs) :
    (a = none ∧ len = 0 ∧ cap = 0 ∧ zs = []) ∨ ∃ g, a = some ⟨g, 0, none⟩ ∧ lo ≤ g ∧ g < hi ∧ len ≤ cap ∧ cap ≤ maxLen ∧ (∀ j, j < len → w.cell? ⟨g, j, none⟩ = some (.int k (zs.getD j 0))) ∧ ∀ j, w.frozen? ⟨g, j, none⟩ = false := by
  obtain ⟨h1, h2, h3, h4, h5⟩ := h
  have h4' := h4
  rcases h4.2 with ⟨hv, hn⟩ | ⟨g, c, cur, hv, hlo, hg, hnc, hcm, hcs, htk⟩
  · simp only [Value.slice.injEq] at hv
    obtain ⟨rfl, rfl, rfl⟩ := hv
    exact .inl ⟨rfl, rfl, rfl, List.eq_nil_of_length_eq_zero h1⟩
  · simp only [Value.slice.injEq, true_and] at hv
    obtain ⟨rfl, rfl⟩ := hv
    refine .inr ⟨g, rfl, hlo, (h5 _ rfl).2, hnc, hcm, fun j hj => ?_, fun j => h4'.frozenAt j⟩
    have := h4'.cellAt j (by omega)
    rw [this]
    exact getD_map_int (by omega)
theorem Own.sees {k : IntKind} {e : TypeId} {w : World} {lo hi : Nat} {a : Option Addr} {len cap : Nat} {zs : List Int} (h : Own k e w lo hi a len cap zs) : Sees k w a len zs := by
  refine ⟨h.1, h.2.1, ?_⟩
  rcases h.spot with ⟨_, h0, _⟩ | ⟨g, ha, _, hg, _, _, hc, _⟩
  · exact .inl h0
  · exact .inr ⟨g, 0, ha, Nat.lt_of_lt_of_le hg h.2.2.1, fun j hj => by rw [Nat.zero_add]; exact hc j hj⟩
theorem Own.moved {k : IntKind} {e : TypeId} {w w' : World} {lo hi lo2 hi2 : Nat} {a : Option Addr} {len cap : Nat} {zs : List Int} (h : Own k e w lo hi a len cap zs) (hm : Moved lo2 hi2 w w') (ho : hi ≤ lo2 ∨ hi2 ≤ lo) : Own k e w' lo hi a len cap zs := by
  obtain ⟨h1, h2, h3, h4, h5⟩ := h
  refine ⟨h1, h2, Nat.le_trans h3 hm.size, ⟨h4.1, ?_⟩, h5⟩
  rcases h4.2 with h | ⟨g, c, cur, hv, hlo, hg, rest⟩
  · exact .inl h
  · refine .inr ⟨g, c, cur, hv, hlo, ?_, rest⟩
    have hgs := (Array.getElem?_eq_some_iff.1 hg).1
    simp only [Value.slice.injEq, true_and] at hv
    have hb := h5 _ hv.1
    simp only at hb
    rw [hm.block g hgs (by omega)]
    exact hg
theorem Own.below {k : IntKind} {e : TypeId} {w w' : World} {lo hi : Nat} {a : Option Addr} {len cap : Nat} {zs : List Int} (h : Own k e w lo hi a len cap zs) (hb : Below w.heap.size w w') : Own k e w' lo hi a len cap zs :=
  h.moved (Moved.of_below (lo := hi) (hi := hi) hb) (.inl (Nat.le_refl _))
theorem Own.wide {k : IntKind} {e : TypeId} {w : World} {lo hi lo2 hi2 : Nat} {a : Option Addr} {len cap : Nat} {zs : List Int} (h : Own k e w lo hi a len cap zs) (h1 : lo2 ≤ lo) (h2 : hi ≤ hi2) (h3 : hi2 ≤ w.heap.size) : Own k e w lo2 hi2 a len cap zs := by
  obtain ⟨g1, g2, g3, g4, g5⟩ := h
  refine ⟨g1, g2, h3, ⟨g4.1, ?_⟩, fun x hx => ⟨Nat.le_trans h1 (g5 x hx).1, Nat.lt_of_lt_of_le (g5 x hx).2 h2⟩⟩
  rcases g4.2 with h | ⟨g, c, cur, hv, hlo, rest⟩
  · exact .inl h
  · exact .inr ⟨g, c, cur, hv, Nat.le_trans h1 hlo, rest⟩
/-- From what the laws on make and append leave. -/
theorem own_of {k : IntKind} {e : TypeId} {w : World} {lo n : Nat} {a : Option Addr} {len cap : Nat} {zs : List Int} (h : w.ownsRow lo e 1 (.slice a len cap) n (zs.map (.int k))) (hw : ∀ n ∈ zs, (Lit.int k n).wf = true) : Own k e w lo w.heap.size a len cap zs := by
  have hn : zs.length = n := by have := h.1; simpa using this
  have hl : len = n := by
    rcases h.2 with ⟨hv, h0⟩ | ⟨g, c, cur, hv, _⟩
    · simp only [Value.slice.injEq] at hv; omega
    · simp only [Value.slice.injEq] at hv; exact hv.2.1
  subst hl
  refine ⟨hn, hw, Nat.le_refl _, h, fun x hx => ?_⟩
  subst hx
  exact h.lt x.block rfl
theorem own_shape {w : World} {lo n : Nat} {e : TypeId} {v : Value} {xs : List Value} (h : w.ownsRow lo e 1 v n xs) : ∃ a cap, v = .slice a n cap := by
  rcases h.2 with ⟨rfl, rfl⟩ | ⟨g, c, cur, rfl, _⟩
  · exact ⟨_, _, rfl⟩
  · exact ⟨_, _, rfl⟩
/-- A store into an element of an own row. -/
theorem Own.stored {k : IntKind} {e : TypeId} {w : World} {lo hi : Nat} {g len cap : Nat} {zs : List Int} (h : Own k e w lo hi (some ⟨g, 0, none⟩) len cap zs) (j : Nat) (x : Int) (hx : (Lit.int k x).wf = true) :
    Own k e (w.setCell ⟨g, j, none⟩ (.int k x)) lo hi (some ⟨g, 0, none⟩) len cap (zs.set j x) ∧ Moved lo hi w (w.setCell ⟨g, j, none⟩ (.int k x)) := by
  obtain ⟨h1, h2, h3, h4, h5⟩ := h
  obtain ⟨s1, s2⟩ := h4.stored j (.int k x)
  have hb := h5 _ rfl
  simp only at hb
  refine ⟨⟨by simpa using h1, fun n hn => ?_, by simpa [World.setCell] using h3, by rw [List.map_set]; exact s1, h5⟩, Moved.of_grown s2 hb.1 hb.2⟩
  rcases List.mem_or_eq_of_mem_set hn with hm | rfl
  · exact h2 n hm
  · exact hx
/-- What a call leaves that makes a slice of numbers. -/
def Made (k : IntKind) (e : TypeId) (zs : List Int) (w : World) (E : Ending) (w' : World) : Prop :=
  ∃ a len cap, E = .returned (.slice a len cap) ∧ Own k e w' w.heap.size w'.heap.size a len cap zs ∧ Below w.heap.size w w'
/-- ys up to place k, zs from there on. -/
def over (ys zs : List Int) (k : Nat) : List Int := ys.take k ++ zs.drop k
theorem over_zero (ys zs : List Int) : over ys zs 0 = zs := by simp [over]
theorem over_all (ys zs : List Int) (h : ys.length = zs.length) : over ys zs ys.length = ys := by
  unfold over
  rw [List.take_length, List.drop_eq_nil_of_le (by omega), List.append_nil]
theorem over_set (ys zs : List Int) (k : Nat) (h : ys.length = zs.length) (hk : k < ys.length) : (over ys zs k).set k (ys.getD k 0) = over ys zs (k + 1) := by
  apply List.ext_getElem
  · simp [over]; omega
  · intro i h1 h2
    simp only [over, List.length_set, List.length_append, List.length_take, List.length_drop] at h1 h2
    rw [List.getElem_set]
    by_cases hi : k = i
    · subst hi
      have hl : k < (List.take (k + 1) ys).length := by simp; omega
      simp only [if_true, over]
      rw [List.getElem_append_left hl, List.getElem_take]
      simp [List.getD, hk]
    · simp only [hi, if_false, over, List.getElem_append, List.length_take, List.getElem_take, List.getElem_drop]
      split
      · rw [dif_pos (by omega)]
      · rw [dif_neg (by omega)]
        congr 1
        omega
theorem getD_mem {l : List Int} {j : Nat} (h : j < l.length) : l.getD j 0 ∈ l := by simp [List.getD, h]
theorem below_drewN0 (B : Nat) (w : World) (n : Nat) : Below B w (w.drewN n) := ⟨rfl, rfl, rfl, Nat.le_refl _, fun _ _ => rfl⟩
theorem run_append_none {P : Program} {w : World} {base : Nat} {t ty e : TypeId} {i : TypeInfo} {size : Nat} (ht : P.underlying t = some (.slice e)) (hi : P.info? e = some i)
    {v : Value} {n : Nat} {xs : List Value} (hown : w.ownsRow base e size v n xs) (c : Nat) : (Builtin.append_ #[t, t] ty #[v, .slice none 0 c]).run P w = .ok v w := by
  rcases hown.2 with ⟨rfl, rfl⟩ | ⟨g, cap, cur, rfl, _, _, hnc, _⟩
  · simp [Builtin.append_, run_underlying ht, sizeOf, typeInfo, hi, Builtin.lenOf, Builtin.firstCells]
  · simp [Builtin.append_, run_underlying ht, sizeOf, typeInfo, hi, Builtin.lenOf, Builtin.firstCells, hnc, storeCells]
theorem wp_append_none {P : Program} {w : World} {ops : Array Oper} {rest : List Oper} {o : Oper} {act : Act} {Q : Exit → Act → World → Prop} (hgd : o.guard = none) (s x : Operand) (t : TypeId)
    (ho : o.op = .call { callee := .builtin .append, args := #[s, x], argTypes := #[t, t] }) (base : Nat) (e : TypeId) (i : TypeInfo) (size : Nat) (ht : P.underlying t = some (.slice e)) (hi : P.info? e = some i)
    (v : Value) (n : Nat) (xs : List Value) (hs : act.eval s = v) (hown : w.ownsRow base e size v n xs) (c : Nat) (hx : act.eval x = .slice none 0 c)
    (h : wpList P ops Q rest (act.put o.dst v) w) : wpList P ops Q (o :: rest) act w := by
  refine wpList_plain hgd fun K hK => ?_
  have hrun := run_append_none (P := P) (w := w) (ty := o.type) ht hi hown c
  unfold Oper.wp
  simp [execOp, ho, resolve, invoke, builtin, hs, hx, hrun, Result.andThen]
  exact hK _ _ h
/-- Elements that are seen go behind an own row's. -/
theorem wp_append_sees {P : Program} {w : World} {ops : Array Oper} {rest : List Oper} {o : Oper} {act : Act} {Q : Exit → Act → World → Prop} (hgd : o.guard = none) (s x : Operand) (t : TypeId)
    (ho : o.op = .call { callee := .builtin .append, args := #[s, x], argTypes := #[t, t] }) (e : TypeId) (i : TypeInfo) (k : IntKind) (bytes : Nat) (ht : P.underlying t = some (.slice e)) (hi : P.info? e = some i)
    (hz : i.zero = some (.int k 0)) (hsize : i.size = 1) (hby : i.bytes = bytes) (a1 : Option Addr) (len1 cap1 : Nat) (zs1 : List Int) (hs : act.eval s = .slice a1 len1 cap1) (lo hi1 : Nat) (hown : Own k e w lo hi1 a1 len1 cap1 zs1)
    (a2 : Option Addr) (len2 cap2 : Nat) (zs2 : List Int) (hx : act.eval x = .slice a2 len2 cap2) (hsee : Sees k w a2 len2 zs2) (h63 : len1 + len2 ≤ maxLen) (h47 : (len1 + len2) * bytes ≤ 140737488355328) (hlo : lo ≤ w.heap.size)
    (h : ∀ a' len' cap' w', len' = len1 + len2 → Own k e w' lo w'.heap.size a' len' cap' (zs1 ++ zs2) → Moved lo hi1 w w' → wpList P ops Q rest (act.put o.dst (.slice a' len' cap')) w') : wpList P ops Q (o :: rest) act w := by
  have hwf : ∀ n ∈ zs1 ++ zs2, (Lit.int k n).wf = true := by
    intro n hn
    rcases List.mem_append.1 hn with hn | hn
    · exact hown.2.1 n hn
    · exact hsee.2.1 n hn
  cases a2 with
  | none =>
    have h0 : len2 = 0 := by
      rcases hsee.2.2 with h0 | ⟨b, off, ha, _⟩
      · exact h0
      · cases ha
    subst h0
    have hz2 : zs2 = [] := List.eq_nil_of_length_eq_zero hsee.1
    subst hz2
    refine wp_append_none hgd s x t ho lo e i 1 ht hi _ _ _ hs hown.2.2.2.1 _ hx ?_
    exact h a1 len1 cap1 w rfl (by rw [List.append_nil]; exact hown.wide (Nat.le_refl _) hown.2.2.1 (Nat.le_refl _)) (Moved.refl _ _ _)
  | some ad =>
    refine wpList_append_own w hgd s x t ho lo e i (.int k 0) 1 bytes ht hi hz hsize hby rfl (by decide) _ len1 _ hs hown.2.2.2.1 ad len2 cap2 (zs2.map (.int k)) hx (by simp [hsee.1]) ?_ (ints_oneCell _ _) h63 h47 hlo ?_
    · intro j u hu
      rcases hsee.2.2 with h0 | ⟨b, off, ha, _, hc⟩
      · have := (List.getElem?_eq_some_iff.1 hu).1
        have h1 := hsee.1
        simp at this
        omega
      · have hj := (List.getElem?_eq_some_iff.1 hu).1
        simp [hsee.1] at hj
        obtain rfl := Option.some.inj ha
        rw [add_plain, hc j hj, ← hu]
        exact (getD_map_int (by rw [hsee.1]; exact hj)).symm
    · intro v' w' ho' hg _
      obtain ⟨a', cap', rfl⟩ := own_shape ho'
      refine h a' _ cap' w' rfl (own_of (n := len1 + len2) (by rw [List.map_append]; exact ho') hwf) ?_
      refine ⟨hg.os, hg.tape, hg.output, hg.size, fun k hk hne => hg.block k hk fun e => hne ?_⟩
      cases a1 with
      | none => simp [Value.ownBlock] at e
      | some x =>
        simp only [Value.ownBlock, Option.some.injEq] at e
        have := hown.2.2.2.2 _ rfl
        omega
theorem sees_one {k : IntKind} {x : Int} (h : (Lit.int k x).wf = true) (w : World) (t : TypeId) : Sees k (w.alloc (.cells #[.int k x] t)) (some ⟨w.heap.size, 0, none⟩) 1 [x] := by
  refine ⟨rfl, by simpa using h, .inr ⟨_, _, rfl, by simp, fun j hj => ?_⟩⟩
  obtain rfl : j = 0 := by omega
  simp
/-- A literal of no element. -/
theorem own_nil (k : IntKind) (e : TypeId) (w : World) : Own k e (w.alloc (.cells #[] e)) w.heap.size (w.heap.size + 1) (some ⟨w.heap.size, 0, none⟩) 0 0 [] := by
  refine ⟨rfl, (fun _ h => by cases h), by simp, ⟨rfl, .inr ⟨w.heap.size, 0, #[], rfl, Nat.le_refl _, heap_alloc_new w _, Nat.le_refl _, Nat.zero_le _, rfl, rfl⟩⟩, fun x hx => ?_⟩
  obtain rfl := Option.some.inj hx
  exact ⟨Nat.le_refl _, Nat.lt_succ_self _⟩
theorem Own.alloc {k : IntKind} {e : TypeId} {w : World} {lo hi : Nat} {a : Option Addr} {len cap : Nat} {zs : List Int} (h : Own k e w lo hi a len cap zs) (o : Obj) : Own k e (w.alloc o) lo hi a len cap zs :=
  h.below ((Below.refl _ _).alloc (Nat.le_refl _) _)
theorem Sees.alloc {k : IntKind} {w : World} {a : Option Addr} {len : Nat} {zs : List Int} (h : Sees k w a len zs) (o : Obj) : Sees k (w.alloc o) a len zs :=
  h.below ((Below.refl _ _).alloc (Nat.le_refl _) _)
theorem toList_made (k : IntKind) (n : Nat) : (madeCells (Value.int k 0).cells (n * 1)).toList = (List.replicate n (0 : Int)).map (.int k) := by
  have : (Value.int k 0).cells = #[Value.int k 0] := rfl
  rw [this, toList_madeCells_one, Nat.mul_one, List.map_replicate]
/-- 'make' with a length and room. -/
theorem wp_make_room {P : Program} (w : World) {ops : Array Oper} {rest : List Oper} {o : Oper} {act : Act} {Q : Exit → Act → World → Prop}
    (hg : o.guard = none) (l c : Operand) (t : TypeId) (hop : o.op = Op.makeSlice t l c) (e : TypeId) (i : TypeInfo) (k : IntKind) (bytes : Nat) (h1 : P.underlying t = some (.slice e)) (h2 : P.info? e = some i)
    (h3 : i.zero = some (.int k 0)) (h4 : i.size = 1) (h5 : i.bytes = bytes) (kl kc : IntKind) (L C : Int) (len cap : Nat) (hl : act.eval l = .int kl L) (hc : act.eval c = .int kc C) (hL : L = (len : Int)) (hC : C = (cap : Int)) (hlc : len ≤ cap)
    (b1 : bytes * cap ≤ 281474976710656) (b2 : cap ≤ maxLen)
    (hK : ∀ w', Own k e w' w.heap.size w'.heap.size (some ⟨w.heap.size, 0, none⟩) len cap (List.replicate len 0) → Below w.heap.size w w' → wpList P ops Q rest (act.put o.dst (.slice (some ⟨w.heap.size, 0, none⟩) len cap)) w') :
    wpList P ops Q (o :: rest) act w := by
  refine wpList_plain hg fun K hK' => ?_
  subst hL hC h5
  have b2' : (cap : Int) ≤ 9223372036854775807 := by unfold maxLen at b2; omega
  have hrun := run_make (P := P) w t e i (.int k 0) h1 h2 h3 kl kc (len : Int) (cap : Int) (by omega) (by omega) (by rw [← Int.natCast_mul]; omega) b2'
  simp only [Int.toNat_natCast] at hrun
  unfold Oper.wp
  simp [execOp, hop, hl, hc, hrun, Result.andThen]
  refine hK' _ _ (hK _ ?_ ((Below.refl _ _).alloc (Nat.le_refl _) _))
  rw [h4]
  refine own_of (n := len) ⟨by simp, .inr ⟨w.heap.size, cap, _, rfl, Nat.le_refl _, heap_alloc_new w _, hlc, b2, ?_, ?_⟩⟩ ?_
  · rw [← Array.length_toList, toList_made]; simp
  · rw [toList_made, ← List.map_take, List.take_replicate]
    congr 2
    omega
  · intro n hn
    rw [List.mem_replicate] at hn
    obtain ⟨_, rfl⟩ := hn
    cases k <;> decide
/-- 'copy' into an own row from its head. -/
theorem wp_copy_sees {P : Program} {w : World} {ops : Array Oper} {rest : List Oper} {o : Oper} {act : Act} {Q : Exit → Act → World → Prop} (hgd : o.guard = none) (d s : Operand) (dT sT : TypeId)
    (ho : o.op = .call { callee := .builtin .copy, args := #[d, s], argTypes := #[dT, sT] }) (e : TypeId) (i : TypeInfo) (k : IntKind) (hu : P.underlying dT = some (.slice e)) (hi : P.info? e = some i) (hsz : i.size = 1)
    (a1 : Option Addr) (len1 cap1 : Nat) (zs1 : List Int) (hd : act.eval d = .slice a1 len1 cap1) (lo hi1 : Nat) (hown : Own k e w lo hi1 a1 len1 cap1 zs1)
    (a2 : Option Addr) (len2 cap2 : Nat) (zs2 : List Int) (hs : act.eval s = .slice a2 len2 cap2) (hsee : Sees k w a2 len2 zs2)
    (h : ∀ w', Own k e w' lo hi1 a1 len1 cap1 (zs2.take len1 ++ zs1.drop len2) → Moved lo hi1 w w' → wpList P ops Q rest (act.put o.dst (goInt (Nat.min len2 len1))) w') : wpList P ops Q (o :: rest) act w := by
  have hszi : (P.info? e).map (·.size) = some 1 := by rw [hi]; simp [hsz]
  have hl1 := hown.1
  have hl2 := hsee.1
  by_cases h0 : Nat.min len2 len1 = 0
  · refine wpList_copy_nothing hgd d s dT sT ho e hu hszi a1 a2 len1 cap1 len2 cap2 hd hs h0 ?_
    rw [h0] at h
    refine h w ?_ (Moved.refl _ _ _)
    have e1 : zs2.take len1 ++ zs1.drop len2 = zs1 := by
      rcases Nat.eq_zero_or_pos len2 with h2 | h2
      · have : zs2 = [] := List.eq_nil_of_length_eq_zero (by omega)
        subst h2 this
        simp
      · have h3 : len1 = 0 := by simp only [Nat.min_def] at h0; split at h0 <;> omega
        have : zs1 = [] := List.eq_nil_of_length_eq_zero (by omega)
        subst h3 this
        simp
    rw [e1]
    exact hown
  · have hm1 : 0 < len1 := by
      rcases Nat.eq_zero_or_pos len1 with h3 | h3
      · exact absurd (by rw [h3]; exact Nat.min_zero _) h0
      · exact h3
    have hm2 : 0 < len2 := by
      rcases Nat.eq_zero_or_pos len2 with h3 | h3
      · exact absurd (by rw [h3]; exact Nat.zero_min _) h0
      · exact h3
    obtain ⟨g1, g2, g3, g4, g5⟩ := hown
    rcases g4.2 with ⟨_, hx⟩ | ⟨g, c, cur, hv, hlo, hg, hnc, hcm, hcs, htk⟩
    · omega
    · simp only [Value.slice.injEq, true_and] at hv
      obtain ⟨rfl, rfl⟩ := hv
      have hgb := g5 _ rfl
      simp only at hgb
      rcases hsee.2.2 with hx | ⟨b, off, rfl, hb, hc⟩
      · omega
      · have hcl : ((zs2.take len1).map (Value.int k)).length = Nat.min len2 len1 := by
          simp only [List.length_map, List.length_take, hl2]; exact Nat.min_comm _ _
        have hcl1 : Nat.min len2 len1 ≤ len1 := Nat.min_le_right _ _
        have hcl2 : Nat.min len2 len1 ≤ len2 := Nat.min_le_left _ _
        have hfit : 0 + ((zs2.take len1).map (Value.int k)).length ≤ cur.size := by
          rw [hcl, hcs]; omega
        refine wpList_copy_own hgd d s dT sT ho e hu hszi g 0 len1 cap1 ⟨b, off, none⟩ len2 cap2 hd hs cur e hg ((zs2.take len1).map (.int k)) hcl ?_ hfit (ints_oneCell _ _) ?_
        · intro j v hv
          have hj := (List.getElem?_eq_some_iff.1 hv).1
          rw [hcl] at hj
          rw [add_plain, hc j (by omega), ← getD_map_int (by omega)]
          rw [← hv, List.getElem?_map, List.getElem?_map, List.getElem?_take, if_pos (by omega)]
        · rw [hcl]
          refine h _ ?_ ?_
          · refine ⟨by simp [hl1, hl2]; omega, ?_, by simpa [World.setRow] using g3, ⟨by simp [hl1, hl2]; omega, .inr ⟨g, cap1, _, rfl, hlo, setRow_heap w g cur _ e _ hg, hnc, hcm, ?_, ?_⟩⟩, g5⟩
            · intro n hn
              rcases List.mem_append.1 hn with hn | hn
              · exact hsee.2.1 n (List.mem_of_mem_take hn)
              · exact g2 n (List.mem_of_mem_drop hn)
            · simp only [List.take_zero, List.nil_append, List.size_toArray, List.length_append, List.length_drop, Array.length_toList, hcl]
              rw [hcs]; omega
            · have hdrop : (cur.toList.drop (0 + Nat.min len2 len1)).take (len1 - Nat.min len2 len1) = (zs1.drop (Nat.min len2 len1)).map (.int k) := by
                rw [List.map_drop, ← htk, List.drop_take, Nat.zero_add, Nat.mul_one]
              simp only [List.take_zero, List.nil_append]
              rw [List.take_append, hcl, Nat.mul_one, List.take_of_length_le (by rw [hcl]; exact hcl1), hdrop, List.map_append]
              congr 2
              rcases Nat.le_total len2 len1 with h5 | h5
              · rw [show Nat.min len2 len1 = len2 from Nat.min_eq_left h5]
              · rw [show Nat.min len2 len1 = len1 from Nat.min_eq_right h5, List.drop_eq_nil_of_le (by omega), List.drop_eq_nil_of_le (by omega)]
          · exact ⟨rfl, rfl, rfl, by simp [World.setRow], fun k hk hne => setRow_other w g k _ (fun e => hne (by omega))⟩
end Go.Proofs.Ytedkeobhcpbigaa
