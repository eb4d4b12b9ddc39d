/- A slice of probes of the call's own grows by a probe. -/
import Derived.Test.YtjckcggjmcaaoaaSlQ
import Derived.Deep.AppendLies
namespace Go.Proofs.Ytjckcggjmcaaoaa
open Go.RowKit
theorem prb_append_left {ps : List Prb} {z : Prb} {r : Nat} (h : r < ps.length) : prb (ps ++ [z]) r = prb ps r := by
  unfold prb List.getD
  rw [List.getElem?_append_left h]
theorem prb_append_last {ps : List Prb} {z : Prb} : prb (ps ++ [z]) ps.length = z := by simp [prb, List.getD]
theorem FitQ.append {ps : List Prb} {z : Prb} (h : FitQ ps) (hz : (Lit.int .i64 z.1).wf = true ∧ (Lit.int .i64 z.2.1).wf = true) : FitQ (ps ++ [z]) := by
  intro p hp
  rcases List.mem_append.1 hp with hp | hp
  · exact h p hp
  · rw [List.mem_singleton] at hp; subst hp; exact hz
theorem headsQ_append {A : Nat → Option Addr} {C : Nat → Nat} {ms : List Prb} {z : Prb} {ar : Option Addr} {cr : Nat} :
    headsQ A C ms ++ [(.int .i64 z.1, .int .i64 z.2.1, .slice ar z.2.2.length cr)] = headsQ (fun r => if r = ms.length then ar else A r) (fun r => if r = ms.length then cr else C r) (ms ++ [z]) := by
  apply List.ext_getElem?
  intro j
  rcases Nat.lt_trichotomy j ms.length with hj | hj | hj
  · rw [List.getElem?_append_left (by rw [headsQ_len]; omega), headsQ_at (by omega), headsQ_at (by simp; omega)]
    unfold headQ
    rw [prb_append_left (by omega)]
    simp [show ¬ j = ms.length by omega]
  · subst hj
    rw [List.getElem?_append_right (by rw [headsQ_len]; omega), headsQ_at (by simp), headsQ_len]
    unfold headQ
    rw [prb_append_last]
    simp
  · rw [List.getElem?_eq_none (by simp [headsQ_len]; omega), List.getElem?_eq_none (by rw [headsQ_len]; simp; omega)]
theorem run_append_ownQ {P : Program} (w : World) (t ty : TypeId) (i : TypeInfo) (ht : P.underlying t = some (.slice 38)) (hi : P.info? 38 = some i)
    (hz : i.zero = some (.agg #[.int .i64 0, .int .i64 0, .slice none 0 0])) (hsize : i.size = 3) (hby : i.bytes = 40) (a1 : Option Addr) (len1 cap1 : Nat) (ms : List Prb) (lo hi1 : Nat) (hown : OwnQ w lo hi1 a1 len1 cap1 ms)
    (b : Nat) (ar : Option Addr) (cr : Nat) (z : Prb) (hwf : (Lit.int .i64 z.1).wf = true ∧ (Lit.int .i64 z.2.1).wf = true) (hc0 : w.cell? ⟨b, 0, none⟩ = some (.int .i64 z.1)) (hc1 : w.cell? ⟨b, 1, none⟩ = some (.int .i64 z.2.1)) (hc : w.cell? ⟨b, 2, none⟩ = some (.slice ar z.2.2.length cr)) (lo2 hi2 : Nat) (hs : Own .i64 3 w lo2 hi2 ar z.2.2.length cr z.2.2) (h12 : hi1 ≤ lo2) (hlo2 : lo ≤ lo2) (h63 : len1 + 1 ≤ 1073741824) (hlo : lo ≤ w.heap.size) :
    ∃ g cap' w', (Builtin.append_ #[t, t] ty #[.slice a1 len1 cap1, .slice (some ⟨b, 0, none⟩) 1 1]).run P w = .ok (.slice (some ⟨g, 0, none⟩) (len1 + 1) cap') w' ∧ OwnQ w' lo w'.heap.size (some ⟨g, 0, none⟩) (len1 + 1) cap' (ms ++ [z]) ∧ Moved lo hi1 w w' := by
  obtain ⟨e1, ef, e0, e3, A, C, e2, e5⟩ := hown
  obtain ⟨g, cap', w', hr, o1, o2, o3, o4⟩ := run_append_lies (P := P) w t ty lo 38 i (.agg #[.int .i64 0, .int .i64 0, .slice none 0 0]) 3 40 ht hi hz hsize hby rfl (by decide) _ len1 _ e2 ⟨b, 0, none⟩ 1 1 [.int .i64 z.1, .int .i64 z.2.1, .slice ar z.2.2.length cr] rfl (fun j u hu => by
      have hj := (List.getElem?_eq_some_iff.1 hu).1
      simp at hj
      have : j = 0 ∨ j = 1 ∨ j = 2 := by omega
      rw [add_plain]
      rcases this with rfl | rfl | rfl
      · simp at hu
        rw [← hu]
        exact hc0
      · simp at hu
        rw [← hu]
        exact hc1
      · simp at hu
        rw [← hu]
        exact hc) (fun u hu => by simp at hu; rcases hu with rfl | rfl | rfl <;> rfl) (by decide) (by unfold maxLen; omega) (by omega) hlo _ rfl
  have hoff : ∃ l h, Moved l h w w' ∧ (l = h ∨ lo ≤ l ∧ h ≤ hi1) ∧ ∀ x, l ≤ x → x < h → ∃ y, a1 = some y ∧ y.block = x := by
    cases a1 with
    | none => exact ⟨lo, lo, ⟨o2.os, o2.tape, o2.output, o2.size, fun k hk _ => o2.block k hk (by simp [Value.ownBlock])⟩, .inl rfl, fun x h1 h2 => by omega⟩
    | some y =>
      have := e3 y rfl
      exact ⟨y.block, y.block + 1, Moved.of_grown o2 (Nat.le_refl _) (Nat.lt_succ_self _), .inr this, fun x h1 h2 => ⟨y, rfl, by omega⟩⟩
  obtain ⟨l, h, hm, hlh, hin⟩ := hoff
  have hgin : ∀ y, a1 = some y → y.block < hi1 := fun y hy => (e3 y hy).2
  have hg : (∃ y, a1 = some y ∧ y.block = g) ∨ g = w.heap.size := by
    rcases o3 with o3 | o3
    · cases a1 with
      | none => simp [Value.ownBlock] at o3
      | some y =>
        simp only [Value.ownBlock, Option.some.injEq] at o3
        exact .inl ⟨y, rfl, o3⟩
    · exact .inr o3
  have hsz := o2.size
  have hm2 : Moved lo hi1 w w' := ⟨hm.os, hm.tape, hm.output, hm.size, fun k hk hne => hm.block k hk (fun hk2 => by
    obtain ⟨y, hy, he⟩ := hin k hk2.1 hk2.2
    have := e3 y hy
    omega)⟩
  refine ⟨g, cap', w', hr, ⟨by simp [e1], ef.append hwf, Nat.le_refl _, fun x hx => ?_, fun r => if r = len1 then ar else A r, fun r => if r = len1 then cr else C r, ?_, fun r hr2 => ?_⟩, hm2⟩
  · cases hx
    rcases hg with ⟨y, hy, he⟩ | he
    · have := e3 y hy; exact ⟨by simp only; omega, o4⟩
    · exact ⟨by simp only; omega, o4⟩
  · have e := headsQ_append (A := A) (C := C) (ms := ms) (z := z) (ar := ar) (cr := cr)
    rw [e1] at e
    rw [← e, flat3_append]
    exact o1
  · have hr3 : r < len1 + 1 := by rw [List.length_append, e1] at hr2; simpa using hr2
    by_cases hrl : r = len1
    · subst hrl
      simp only [if_true]
      rw [← e1, prb_append_last]
      refine ⟨(hs.off hm (fun x hx hx2 => ?_)).wide hlo2 (Nat.le_trans hs.2.2.1 hsz) (Nat.le_refl _), fun x hx => ⟨fun y hy => ?_, fun s hs2 hsr y hy => ?_⟩⟩
      · obtain ⟨y, hy, he⟩ := hin _ hx2.1 hx2.2
        have h1 := hgin y hy
        have h2 := hs.2.2.2.2 x hx
        omega
      · cases hy
        have h2 := hs.2.2.2.2 x hx
        have h3 := hs.2.2.1
        rcases hg with ⟨y, hy, he⟩ | he
        · have h1 := hgin y hy; simp only; omega
        · simp only; omega
      · rw [if_neg (by omega)] at hy
        have h1 := ((e5 s (by rw [List.length_append] at hs2; simp at hs2; omega)).1).2.2.2.2 y hy
        have h2 := hs.2.2.2.2 x hx
        omega
    · have hr4 : r < ms.length := by omega
      simp only [hrl, if_false]
      rw [prb_append_left hr4]
      obtain ⟨q1, q2⟩ := e5 r hr4
      have hq := q1.2.2.2.2
      refine ⟨(q1.off hm (fun x hx hx2 => ?_)).wide (Nat.le_refl _) (Nat.le_trans e0 hsz) (Nat.le_refl _), fun x hx => ⟨fun y hy => ?_, fun s hs2 hsr y hy => ?_⟩⟩
      · obtain ⟨y, hy, he⟩ := hin _ hx2.1 hx2.2
        exact (q2 x hx).1 y hy he.symm
      · cases hy
        rcases hg with ⟨y, hy, he⟩ | he
        · have := (q2 x hx).1 y hy; simp only; omega
        · have := hq x hx; simp only; omega
      · by_cases hsl : s = len1
        · rw [if_pos hsl] at hy
          have h1 := hs.2.2.2.2 y hy
          have h2 := hq x hx
          omega
        · rw [if_neg hsl] at hy
          exact (q2 x hx).2 s (by rw [List.length_append] at hs2; simp at hs2; omega) hsr y hy
theorem wp_append_ownQ {P : Program} {w : World} {ops : Array Oper} {rest : List Oper} {o : Oper} {act : Act} {Q : Exit → Act → World → Prop} (hgd : o.guard = none) (s x : Operand) (t : TypeId)
    (ho : o.op = .call { callee := .builtin .append, args := #[s, x], argTypes := #[t, t] }) (i : TypeInfo) (ht : P.underlying t = some (.slice 38)) (hi : P.info? 38 = some i)
    (hz : i.zero = some (.agg #[.int .i64 0, .int .i64 0, .slice none 0 0])) (hsize : i.size = 3) (hby : i.bytes = 40) (a1 : Option Addr) (len1 cap1 : Nat) (hsv : act.eval s = .slice a1 len1 cap1) (b : Nat) (hxv : act.eval x = .slice (some ⟨b, 0, none⟩) 1 1) (ms : List Prb) (lo hi1 : Nat) (hown : OwnQ w lo hi1 a1 len1 cap1 ms)
    (ar : Option Addr) (cr : Nat) (z : Prb) (hwf : (Lit.int .i64 z.1).wf = true ∧ (Lit.int .i64 z.2.1).wf = true) (hc0 : w.cell? ⟨b, 0, none⟩ = some (.int .i64 z.1)) (hc1 : w.cell? ⟨b, 1, none⟩ = some (.int .i64 z.2.1)) (hc : w.cell? ⟨b, 2, none⟩ = some (.slice ar z.2.2.length cr)) (lo2 hi2 : Nat) (hs : Own .i64 3 w lo2 hi2 ar z.2.2.length cr z.2.2) (h12 : hi1 ≤ lo2) (hlo2 : lo ≤ lo2) (h63 : len1 + 1 ≤ 1073741824) (hlo : lo ≤ w.heap.size)
    (h : ∀ g cap' w', OwnQ w' lo w'.heap.size (some ⟨g, 0, none⟩) (len1 + 1) cap' (ms ++ [z]) → Moved lo hi1 w w' → wpList P ops Q rest (act.put o.dst (.slice (some ⟨g, 0, none⟩) (len1 + 1) cap')) w') : wpList P ops Q (o :: rest) act w := by
  obtain ⟨g, cap', w', hr, k1, k2⟩ := run_append_ownQ (P := P) w t o.type i ht hi hz hsize hby a1 len1 cap1 ms lo hi1 hown b ar cr z hwf hc0 hc1 hc lo2 hi2 hs h12 hlo2 h63 hlo
  refine wpList_plain hgd fun K hK => ?_
  unfold Oper.wp execOp
  simp only [ho, resolve, invoke, builtin, Sem.run_bind, Sem.run_pure, Result.andThen_ok, List.map_toArray, List.map_cons, List.map_nil, hsv, hxv, hr]
  exact hK _ _ (h g cap' w' k1 k2)
end Go.Proofs.Ytjckcggjmcaaoaa
