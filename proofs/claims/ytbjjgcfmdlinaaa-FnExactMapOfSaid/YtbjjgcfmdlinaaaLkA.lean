/- Links that are seen go behind an own row's: as a run, and at a step of a region that draws its order; a slice of links, cut. -/
import Derived.Test.YtbjjgcfmdlinaaaSlL
import Derived.Test.YtbjjgcfmdlinaaaStepSl
namespace Go.Proofs.Ytbjjgcfmdlinaaa
open Go.RowKit
theorem SeesL.cutL {w : World} {b o len : Nat} {xs : List (Int × Int)} (h : SeesL w (some ⟨b, o, none⟩) len xs) {k : Nat} (hk : k ≤ len) : SeesL w (some ⟨b, o, none⟩) k (xs.take k) := by
  obtain ⟨h1, h2, h3⟩ := h
  refine ⟨by rw [List.length_take]; omega, fun n hn => h2 n (List.mem_of_mem_take hn), ?_⟩
  rcases h3 with h0 | ⟨b', o', ha, hb, hc⟩
  · exact .inl (by omega)
  · cases ha
    refine .inr ⟨b, o, rfl, hb, fun j hj => ?_⟩
    have := hc j (by omega)
    rw [show (xs.take k).getD j (0, 0) = xs.getD j (0, 0) by simp [List.getD, hj]]
    exact this
theorem SeesL.dropL {w : World} {g len cap : Nat} {xs : List (Int × Int)} (h : SeesL w (some ⟨g, 0, none⟩) len xs) (hlc : len ≤ cap) {p : Nat} (hp : p ≤ len) : SeesL w (if cap = p then some ⟨g, 0, none⟩ else some ⟨g, p * 2, none⟩) (len - p) (xs.drop p) := by
  obtain ⟨h1, h2, h3⟩ := h
  refine ⟨by rw [List.length_drop]; omega, fun n hn => h2 n (List.mem_of_mem_drop hn), ?_⟩
  by_cases hcp : cap = p
  · exact .inl (by omega)
  · rw [if_neg hcp]
    rcases h3 with h0 | ⟨b', o', ha, hb, hc⟩
    · exact .inl (by omega)
    · cases ha
      refine .inr ⟨g, p * 2, rfl, hb, fun j hj => ?_⟩
      have := hc (p + j) (by omega)
      rw [show (xs.drop p).getD j (0, 0) = xs.getD (p + j) (0, 0) by simp [List.getD]]
      rw [show p * 2 + j * 2 = 0 + (p + j) * 2 by omega]
      exact this
theorem run_append_seesL {P : Program} (w : World) (t ty : TypeId) (i : TypeInfo) (ht : P.underlying t = some (.slice 38)) (hi : P.info? 38 = some i)
    (hz : i.zero = some (.agg #[.int .i64 0, .int .i64 0])) (hsize : i.size = 2) (hby : i.bytes = 16) (a1 : Option Addr) (len1 cap1 : Nat) (xs1 : List (Int × Int)) (lo hi1 : Nat) (hown : OwnL w lo hi1 a1 len1 cap1 xs1)
    (a2 : Option Addr) (len2 cap2 : Nat) (xs2 : List (Int × Int)) (hsee : SeesL w a2 len2 xs2) (h63 : len1 + len2 ≤ maxLen) (h47 : (len1 + len2) * 16 ≤ 140737488355328) (hlo : lo ≤ w.heap.size) :
    ∃ a' len' cap' w', (Builtin.append_ #[t, t] ty #[.slice a1 len1 cap1, .slice a2 len2 cap2]).run P w = .ok (.slice a' len' cap') w' ∧ len' = len1 + len2 ∧ OwnL w' lo w'.heap.size a' len' cap' (xs1 ++ xs2) ∧ Moved lo hi1 w w' := by
  cases a2 with
  | none =>
    have h0 : len2 = 0 := by
      rcases hsee.2.2 with h0 | ⟨b, off, ha, _⟩
      · exact h0
      · cases ha
    subst h0
    have hz2 : xs2 = [] := List.eq_nil_of_length_eq_zero hsee.1
    subst hz2
    exact ⟨a1, len1, cap1, w, run_append_none (ty := ty) ht hi hown.2.2.2.1 _, rfl, by rw [List.append_nil]; exact hown.wide (Nat.le_refl _) hown.2.2.1 (Nat.le_refl _), Moved.refl _ _ _⟩
  | some ad =>
    have hn2 : ((flatL xs2).map (Value.int .i64)).length = len2 * 2 := by rw [List.length_map, flatL_len, hsee.1]
    obtain ⟨v', w', hr, ho', hg, _, _⟩ := run_append_own_at (P := P) w lo t ty 38 i _ 2 16 ht hi hz hsize hby rfl (by decide) _ len1 _ hown.2.2.2.1 ad len2 cap2 ((flatL xs2).map (.int .i64)) hn2 (by
      intro j u hu
      have hj := (List.getElem?_eq_some_iff.1 hu).1
      rw [hn2] at hj
      rcases hsee.2.2 with h0 | ⟨b, off, ha, _, hc⟩
      · omega
      · obtain rfl := Option.some.inj ha
        obtain ⟨k, hk⟩ : ∃ k, j = k * 2 ∨ j = k * 2 + 1 := ⟨j / 2, by omega⟩
        have hcell := hc k (by omega)
        have f0 := flatL_num xs2 k (by rw [hsee.1]; omega)
        have f1 := flatL_den xs2 k (by rw [hsee.1]; omega)
        rw [List.getElem?_map] at hu
        rw [add_plain]
        rcases hk with rfl | rfl
        · rw [f0] at hu
          rw [hcell.1, ← hu]
          rfl
        · rw [f1] at hu
          rw [← Nat.add_assoc, hcell.2, ← hu]
          rfl) (ints_oneCell _ _) h63 h47 hlo
    obtain ⟨a', cap', rfl⟩ := own_shapeL ho'
    refine ⟨a', _, cap', w', hr, rfl, ownL_of (n := len1 + len2) (by rw [flatL_append, List.map_append]; exact ho') (hown.2.1.append hsee.2.1), hg.os, hg.tape, hg.output, hg.size, fun k hk hne => hg.block k hk fun e => hne ?_⟩
    cases a1 with
    | none => simp [Value.ownBlock] at e
    | some x =>
      simp only [Value.ownBlock, Option.some.injEq] at e
      have := hown.2.2.2.2 _ rfl
      omega
theorem step_append_seesL {P : Program} {w : World} {ops : Array Oper} {o : Oper} {act : Act} {K : Act → World → Prop} {Q : Exit → Act → World → Prop} {E : Prop} (hgd : Region.wanted o (yielded ops act.tmps) = true) (s x : Operand) (t : TypeId)
    (ho : o.op = .call { callee := .builtin .append, args := #[s, x], argTypes := #[t, t] }) (i : TypeInfo) (ht : P.underlying t = some (.slice 38)) (hi : P.info? 38 = some i)
    (hz : i.zero = some (.agg #[.int .i64 0, .int .i64 0])) (hsize : i.size = 2) (hby : i.bytes = 16) (a1 : Option Addr) (len1 cap1 : Nat) (xs1 : List (Int × Int)) (hs : act.eval s = .slice a1 len1 cap1) (lo hi1 : Nat) (hown : OwnL w lo hi1 a1 len1 cap1 xs1)
    (a2 : Option Addr) (len2 cap2 : Nat) (xs2 : List (Int × Int)) (hx : act.eval x = .slice a2 len2 cap2) (hsee : SeesL w a2 len2 xs2) (h63 : len1 + len2 ≤ maxLen) (h47 : (len1 + len2) * 16 ≤ 140737488355328) (hlo : lo ≤ w.heap.size)
    (h : ∀ a' len' cap' w', len' = len1 + len2 → OwnL w' lo w'.heap.size a' len' cap' (xs1 ++ xs2) → Moved lo hi1 w w' → K (act.put o.dst (.slice a' len' cap')) w') :
    if Region.wanted o (yielded ops act.tmps) = true then Oper.wp P o act w K Q else E := by
  obtain ⟨a', len', cap', w', hr, h1, h2, h3⟩ := run_append_seesL (P := P) w t o.type i ht hi hz hsize hby a1 len1 cap1 xs1 lo hi1 hown a2 len2 cap2 xs2 hsee h63 h47 hlo
  rw [if_pos hgd]
  exact oper_append_run w s x t ho _ _ hs hx _ w' hr (h a' len' cap' w' h1 h2 h3)
theorem OwnL.someA {w : World} {lo hi : Nat} {a : Option Addr} {len cap : Nat} {xs : List (Int × Int)} (h : OwnL w lo hi a len cap xs) (hl : 0 < len) : ∃ g, a = some ⟨g, 0, none⟩ := by
  rcases h.2.2.2.1.2 with ⟨hv, h0⟩ | ⟨g, c, cur, hv, _⟩
  · omega
  · simp only [Value.slice.injEq] at hv
    exact ⟨g, hv.1⟩
end Go.Proofs.Ytbjjgcfmdlinaaa
