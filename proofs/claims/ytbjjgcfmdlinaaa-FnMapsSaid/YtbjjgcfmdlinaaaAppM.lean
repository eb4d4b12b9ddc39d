/- A slice of rows of the call's own grows by a row (for seats without XElimP). -/
import Derived.Test.YtbjjgcfmdlinaaaSlA
import Derived.Deep.AppendLies
namespace Go.Proofs.Ytbjjgcfmdlinaaa
open Go.RowKit
theorem row_append_left {ms : List (List Int)} {z : List Int} {r : Nat} (h : r < ms.length) : row (ms ++ [z]) r = row ms r := by
  unfold row List.getD
  rw [List.getElem?_append_left h]
theorem row_append_last {ms : List (List Int)} {z : List Int} : row (ms ++ [z]) ms.length = z := by simp [row, List.getD]
theorem heads_append {A : Nat → Option Addr} {C : Nat → Nat} {ms : List (List Int)} {z : List Int} {ar : Option Addr} {cr : Nat} :
    heads A C ms ++ [.slice ar z.length cr] = heads (fun r => if r = ms.length then ar else A r) (fun r => if r = ms.length then cr else C r) (ms ++ [z]) := by
  apply List.ext_getElem?
  intro j
  rcases Nat.lt_trichotomy j ms.length with hj | hj | hj
  · rw [List.getElem?_append_left (by rw [heads_len]; omega), heads_at (by omega), heads_at (by simp; omega), row_append_left (by omega), if_neg (by omega), if_neg (by omega)]
  · subst hj
    rw [List.getElem?_append_right (by rw [heads_len]; omega), heads_at (by simp), if_pos rfl, if_pos rfl, row_append_last, heads_len]
    simp
  · rw [List.getElem?_eq_none (by simp [heads_len]; omega), List.getElem?_eq_none (by rw [heads_len]; simp; omega)]
theorem run_append_ownM {P : Program} (w : World) (t ty : TypeId) (i : TypeInfo) (ht : P.underlying t = some (.slice 34)) (hi : P.info? 34 = some i)
    (hz : i.zero = some (.slice none 0 0)) (hsize : i.size = 1) (hby : i.bytes = 24) (a1 : Option Addr) (len1 cap1 : Nat) (ms : List (List Int)) (lo hi1 : Nat) (hown : OwnM w lo hi1 a1 len1 cap1 ms)
    (b : Nat) (ar : Option Addr) (cr : Nat) (z : List Int) (hc : w.cell? ⟨b, 0, none⟩ = some (.slice ar z.length cr)) (lo2 hi2 : Nat) (hs : Own .i64 3 w lo2 hi2 ar z.length cr z) (h12 : hi1 ≤ lo2) (hlo2 : lo ≤ lo2) (h63 : len1 + 1 ≤ 1073741824) (hlo : lo ≤ w.heap.size) :
    ∃ g cap' w', (Builtin.append_ #[t, t] ty #[.slice a1 len1 cap1, .slice (some ⟨b, 0, none⟩) 1 1]).run P w = .ok (.slice (some ⟨g, 0, none⟩) (len1 + 1) cap') w' ∧ OwnM w' lo w'.heap.size (some ⟨g, 0, none⟩) (len1 + 1) cap' (ms ++ [z]) ∧ Moved lo hi1 w w' ∧ (∀ k, k < w.heap.size → (∀ y, a1 = some y → y.block ≠ k) → w'.heap[k]? = w.heap[k]?) ∧ ((∃ y, a1 = some y ∧ y.block = g) ∨ g = w.heap.size) := by
  obtain ⟨e1, e0, e3, A, C, e2, e5⟩ := hown
  obtain ⟨g, cap', w', hr, o1, o2, o3, o4⟩ := run_append_lies (P := P) w t ty lo 34 i (.slice none 0 0) 1 24 ht hi hz hsize hby rfl (by decide) _ len1 _ e2 ⟨b, 0, none⟩ 1 1 [.slice ar z.length cr] rfl (fun j u hu => by
      obtain rfl : j = 0 := by have := (List.getElem?_eq_some_iff.1 hu).1; simp at this; omega
      simp at hu
      subst hu
      rw [add_plain]
      exact hc) (fun u hu => by rw [List.mem_singleton] at hu; subst hu; rfl) (by decide) (by unfold maxLen; omega) (by omega) hlo _ rfl
  have hoff : ∃ l h, Moved l h w w' ∧ (l = h ∨ lo ≤ l ∧ h ≤ hi1) ∧ ∀ x, l ≤ x → x < h → ∃ y, a1 = some y ∧ y.block = x := by
    cases a1 with
    | none => exact ⟨lo, lo, ⟨o2.os, o2.tape, o2.output, o2.size, fun k hk _ => o2.block k hk (by simp [Value.ownBlock])⟩, .inl rfl, fun x h1 h2 => by omega⟩
    | some y =>
      have := e3 y rfl
      exact ⟨y.block, y.block + 1, Moved.of_grown o2 (Nat.le_refl _) (Nat.lt_succ_self _), .inr this, fun x h1 h2 => ⟨y, rfl, by omega⟩⟩
  obtain ⟨l, h, hm, hlh, hin⟩ := hoff
  have hgin : ∀ y, a1 = some y → y.block < hi1 := fun y hy => (e3 y hy).2
  have hg : (∃ y, a1 = some y ∧ y.block = g) ∨ g = w.heap.size := by
    rcases o3 with o3 | o3
    · cases a1 with
      | none => simp [Value.ownBlock] at o3
      | some y =>
        simp only [Value.ownBlock, Option.some.injEq] at o3
        exact .inl ⟨y, rfl, o3⟩
    · exact .inr o3
  have hsz := o2.size
  have hm2 : Moved lo hi1 w w' := ⟨hm.os, hm.tape, hm.output, hm.size, fun k hk hne => hm.block k hk (fun hk2 => by
    obtain ⟨y, hy, he⟩ := hin k hk2.1 hk2.2
    have := e3 y hy
    omega)⟩
  refine ⟨g, cap', w', hr, ⟨by simp [e1], Nat.le_refl _, fun x hx => ?_, fun r => if r = len1 then ar else A r, fun r => if r = len1 then cr else C r, ?_, fun r hr2 => ?_⟩, hm2, fun k hk hne => hm.block k hk (fun hk2 => by
    obtain ⟨y, hy, he⟩ := hin k hk2.1 hk2.2
    exact hne y hy he), hg⟩
  · cases hx
    rcases hg with ⟨y, hy, he⟩ | he
    · have := e3 y hy; exact ⟨by simp only; omega, o4⟩
    · exact ⟨by simp only; omega, o4⟩
  · have e := heads_append (A := A) (C := C) (ms := ms) (z := z) (ar := ar) (cr := cr)
    rw [e1] at e
    rw [← e]
    exact o1
  · have hr3 : r < len1 + 1 := by rw [List.length_append, e1] at hr2; simpa using hr2
    by_cases hrl : r = len1
    · subst hrl
      simp only [if_true]
      rw [← e1, row_append_last]
      refine ⟨(hs.off hm (fun x hx hx2 => ?_)).wide hlo2 (Nat.le_trans hs.2.2.1 hsz) (Nat.le_refl _), fun x hx => ⟨fun y hy => ?_, fun s hs2 hsr y hy => ?_⟩⟩
      · obtain ⟨y, hy, he⟩ := hin _ hx2.1 hx2.2
        have h1 := hgin y hy
        have h2 := hs.2.2.2.2 x hx
        omega
      · cases hy
        have h2 := hs.2.2.2.2 x hx
        have h3 := hs.2.2.1
        rcases hg with ⟨y, hy, he⟩ | he
        · have h1 := hgin y hy; simp only; omega
        · simp only; omega
      · rw [if_neg (by omega)] at hy
        have h1 := ((e5 s (by rw [List.length_append] at hs2; simp at hs2; omega)).1).2.2.2.2 y hy
        have h2 := hs.2.2.2.2 x hx
        omega
    · have hr4 : r < ms.length := by omega
      simp only [hrl, if_false]
      rw [row_append_left hr4]
      obtain ⟨q1, q2⟩ := e5 r hr4
      have hq := q1.2.2.2.2
      refine ⟨(q1.off hm (fun x hx hx2 => ?_)).wide (Nat.le_refl _) (Nat.le_trans e0 hsz) (Nat.le_refl _), fun x hx => ⟨fun y hy => ?_, fun s hs2 hsr y hy => ?_⟩⟩
      · obtain ⟨y, hy, he⟩ := hin _ hx2.1 hx2.2
        exact (q2 x hx).1 y hy he.symm
      · cases hy
        rcases hg with ⟨y, hy, he⟩ | he
        · have := (q2 x hx).1 y hy; simp only; omega
        · have := hq x hx; simp only; omega
      · by_cases hsl : s = len1
        · rw [if_pos hsl] at hy
          have h1 := hs.2.2.2.2 y hy
          have h2 := hq x hx
          omega
        · rw [if_neg hsl] at hy
          exact (q2 x hx).2 s (by rw [List.length_append] at hs2; simp at hs2; omega) hsr y hy
theorem wp_append_ownM {P : Program} {w : World} {ops : Array Oper} {rest : List Oper} {o : Oper} {act : Act} {Q : Exit → Act → World → Prop} (hgd : o.guard = none) (s x : Operand) (t : TypeId)
    (ho : o.op = .call { callee := .builtin .append, args := #[s, x], argTypes := #[t, t] }) (i : TypeInfo) (ht : P.underlying t = some (.slice 34)) (hi : P.info? 34 = some i)
    (hz : i.zero = some (.slice none 0 0)) (hsize : i.size = 1) (hby : i.bytes = 24) (a1 : Option Addr) (len1 cap1 : Nat) (hsv : act.eval s = .slice a1 len1 cap1) (b : Nat) (hxv : act.eval x = .slice (some ⟨b, 0, none⟩) 1 1) (ms : List (List Int)) (lo hi1 : Nat) (hown : OwnM w lo hi1 a1 len1 cap1 ms)
    (ar : Option Addr) (cr : Nat) (z : List Int) (hc : w.cell? ⟨b, 0, none⟩ = some (.slice ar z.length cr)) (lo2 hi2 : Nat) (hs : Own .i64 3 w lo2 hi2 ar z.length cr z) (h12 : hi1 ≤ lo2) (hlo2 : lo ≤ lo2) (h63 : len1 + 1 ≤ 1073741824) (hlo : lo ≤ w.heap.size)
    (h : ∀ g cap' w', OwnM w' lo w'.heap.size (some ⟨g, 0, none⟩) (len1 + 1) cap' (ms ++ [z]) → Moved lo hi1 w w' → wpList P ops Q rest (act.put o.dst (.slice (some ⟨g, 0, none⟩) (len1 + 1) cap')) w') : wpList P ops Q (o :: rest) act w := by
  obtain ⟨g, cap', w', hr, k1, k2, _⟩ := run_append_ownM (P := P) w t o.type i ht hi hz hsize hby a1 len1 cap1 ms lo hi1 hown b ar cr z hc lo2 hi2 hs h12 hlo2 h63 hlo
  refine wpList_plain hgd fun K hK => ?_
  unfold Oper.wp execOp
  simp only [ho, resolve, invoke, builtin, Sem.run_bind, Sem.run_pure, Result.andThen_ok, List.map_toArray, List.map_cons, List.map_nil, hsv, hxv, hr]
  exact hK _ _ (h g cap' w' k1 k2)
/-- A literal of one element. -/
theorem own_single {k : IntKind} {x : Int} (h : (Lit.int k x).wf = true) (e : TypeId) (w : World) : Own k e (w.alloc (.cells #[.int k x] e)) w.heap.size (w.heap.size + 1) (some ⟨w.heap.size, 0, none⟩) 1 1 [x] := by
  refine ⟨rfl, by simpa using h, by simp, ⟨rfl, .inr ⟨w.heap.size, 1, #[.int k x], rfl, Nat.le_refl _, heap_alloc_new w _, Nat.le_refl _, by unfold maxLen; omega, rfl, rfl⟩⟩, fun x hx => ?_⟩
  obtain rfl := Option.some.inj hx
  exact ⟨Nat.le_refl _, Nat.lt_succ_self _⟩
theorem ownM_nil0 (W : World) : OwnM (W.alloc (.cells #[] 34)) W.heap.size (W.heap.size + 1) (some ⟨W.heap.size, 0, none⟩) 0 0 [] :=
  ⟨rfl, by simp, fun x hx => by cases hx; exact ⟨Nat.le_refl _, Nat.lt_succ_self _⟩, fun _ => none, fun _ => 0, ⟨rfl, .inr ⟨W.heap.size, 0, #[], rfl, Nat.le_refl _, heap_alloc_new W _, Nat.le_refl _, Nat.zero_le _, rfl, rfl⟩⟩, fun r hr => absurd hr (Nat.not_lt_zero _)⟩
theorem OwnM.alloc {w : World} {lo hi : Nat} {a : Option Addr} {len cap : Nat} {ms : List (List Int)} (h : OwnM w lo hi a len cap ms) (o : Obj) : OwnM (w.alloc o) lo hi a len cap ms :=
  h.below ((Below.refl _ _).alloc (Nat.le_refl _) _)
end Go.Proofs.Ytbjjgcfmdlinaaa
