/- Elements that are seen go behind an own row's: as a run, at a guarded operation, and at a step of a region that draws its order. -/
import Derived.Test.YtedkeobhcpbigaaSl
import Derived.Maps.AppendAt
import Derived.RegionTactic
namespace Go.Proofs.Ytedkeobhcpbigaa
open Go.RowKit
theorem run_append_sees {P : Program} (w : World) (t ty e : TypeId) (i : TypeInfo) (k : IntKind) (bytes : Nat) (ht : P.underlying t = some (.slice e)) (hi : P.info? e = some i)
    (hz : i.zero = some (.int k 0)) (hsize : i.size = 1) (hby : i.bytes = bytes) (a1 : Option Addr) (len1 cap1 : Nat) (zs1 : List Int) (lo hi1 : Nat) (hown : Own k e w lo hi1 a1 len1 cap1 zs1)
    (a2 : Option Addr) (len2 cap2 : Nat) (zs2 : List Int) (hsee : Sees k w a2 len2 zs2) (h63 : len1 + len2 ≤ maxLen) (h47 : (len1 + len2) * bytes ≤ 140737488355328) (hlo : lo ≤ w.heap.size) :
    ∃ a' len' cap' w', (Builtin.append_ #[t, t] ty #[.slice a1 len1 cap1, .slice a2 len2 cap2]).run P w = .ok (.slice a' len' cap') w' ∧ len' = len1 + len2 ∧ Own k e w' lo w'.heap.size a' len' cap' (zs1 ++ zs2) ∧ Moved lo hi1 w w' := by
  have hwf : ∀ n ∈ zs1 ++ zs2, (Lit.int k n).wf = true := by
    intro n hn
    rcases List.mem_append.1 hn with hn | hn
    · exact hown.2.1 n hn
    · exact hsee.2.1 n hn
  cases a2 with
  | none =>
    have h0 : len2 = 0 := by
      rcases hsee.2.2 with h0 | ⟨b, off, ha, _⟩
      · exact h0
      · cases ha
    subst h0
    have hz2 : zs2 = [] := List.eq_nil_of_length_eq_zero hsee.1
    subst hz2
    exact ⟨a1, len1, cap1, w, run_append_none (ty := ty) ht hi hown.2.2.2.1 _, rfl, by rw [List.append_nil]; exact hown.wide (Nat.le_refl _) hown.2.2.1 (Nat.le_refl _), Moved.refl _ _ _⟩
  | some ad =>
    obtain ⟨v', w', hr, ho', hg, _, _⟩ := run_append_own_at (P := P) w lo t ty e i (.int k 0) 1 bytes ht hi hz hsize hby rfl (by decide) _ len1 _ hown.2.2.2.1 ad len2 cap2 (zs2.map (.int k)) (by simp [hsee.1]) (by
      intro j u hu
      rcases hsee.2.2 with h0 | ⟨b, off, ha, _, hc⟩
      · have := (List.getElem?_eq_some_iff.1 hu).1
        have h1 := hsee.1
        simp at this
        omega
      · have hj := (List.getElem?_eq_some_iff.1 hu).1
        simp [hsee.1] at hj
        obtain rfl := Option.some.inj ha
        rw [add_plain, hc j hj, ← hu]
        exact (getD_map_int (by rw [hsee.1]; exact hj)).symm) (ints_oneCell _ _) h63 h47 hlo
    obtain ⟨a', cap', rfl⟩ := own_shape ho'
    refine ⟨a', _, cap', w', hr, rfl, own_of (n := len1 + len2) (by rw [List.map_append]; exact ho') hwf, hg.os, hg.tape, hg.output, hg.size, fun k hk hne => hg.block k hk fun e => hne ?_⟩
    cases a1 with
    | none => simp [Value.ownBlock] at e
    | some x =>
      simp only [Value.ownBlock, Option.some.injEq] at e
      have := hown.2.2.2.2 _ rfl
      omega
theorem oper_append_run {P : Program} (w : World) {o : Oper} {a : Act} {K : Act → World → Prop} {Q : Exit → Act → World → Prop} (s x : Operand) (t : TypeId)
    (ho : o.op = .call { callee := .builtin .append, args := #[s, x], argTypes := #[t, t] }) (vs vx : Value) (hs : a.eval s = vs) (hx : a.eval x = vx)
    (v' : Value) (w' : World) (hr : (Builtin.append_ #[t, t] o.type #[vs, vx]).run P w = .ok v' w') (h : K (a.put o.dst v') w') : o.wp P a w K Q := by
  unfold Oper.wp execOp
  simp only [ho, resolve, invoke, builtin, Sem.run_bind, Sem.run_pure, Result.andThen_ok, List.map_toArray, List.map_cons, List.map_nil, hs, hx, hr]
  exact h
/-- At an operation whose guard is met. -/
theorem wp_append_on {P : Program} {w : World} {ops : Array Oper} {rest : List Oper} {o : Oper} {act : Act} {Q : Exit → Act → World → Prop} (hw : Region.wanted o (yielded ops act.tmps) = true) (s x : Operand) (t : TypeId)
    (ho : o.op = .call { callee := .builtin .append, args := #[s, x], argTypes := #[t, t] }) (e : TypeId) (i : TypeInfo) (k : IntKind) (bytes : Nat) (ht : P.underlying t = some (.slice e)) (hi : P.info? e = some i)
    (hz : i.zero = some (.int k 0)) (hsize : i.size = 1) (hby : i.bytes = bytes) (a1 : Option Addr) (len1 cap1 : Nat) (zs1 : List Int) (hs : act.eval s = .slice a1 len1 cap1) (lo hi1 : Nat) (hown : Own k e w lo hi1 a1 len1 cap1 zs1)
    (a2 : Option Addr) (len2 cap2 : Nat) (zs2 : List Int) (hx : act.eval x = .slice a2 len2 cap2) (hsee : Sees k w a2 len2 zs2) (h63 : len1 + len2 ≤ maxLen) (h47 : (len1 + len2) * bytes ≤ 140737488355328) (hlo : lo ≤ w.heap.size)
    (h : ∀ a' len' cap' w', len' = len1 + len2 → Own k e w' lo w'.heap.size a' len' cap' (zs1 ++ zs2) → Moved lo hi1 w w' → wpList P ops Q rest (act.put o.dst (.slice a' len' cap')) w') : wpList P ops Q (o :: rest) act w := by
  obtain ⟨a', len', cap', w', hr, h1, h2, h3⟩ := run_append_sees (P := P) w t o.type e i k bytes ht hi hz hsize hby a1 len1 cap1 zs1 lo hi1 hown a2 len2 cap2 zs2 hsee h63 h47 hlo
  refine wpList_step fun K hK => ?_
  rw [if_pos hw]
  exact oper_append_run w s x t ho _ _ hs hx _ w' hr (hK _ _ (h a' len' cap' w' h1 h2 h3))
theorem step_append_sees {P : Program} {w : World} {ops : Array Oper} {o : Oper} {act : Act} {K : Act → World → Prop} {Q : Exit → Act → World → Prop} {E : Prop} (hgd : o.guard = none) (s x : Operand) (t : TypeId)
    (ho : o.op = .call { callee := .builtin .append, args := #[s, x], argTypes := #[t, t] }) (e : TypeId) (i : TypeInfo) (k : IntKind) (bytes : Nat) (ht : P.underlying t = some (.slice e)) (hi : P.info? e = some i)
    (hz : i.zero = some (.int k 0)) (hsize : i.size = 1) (hby : i.bytes = bytes) (a1 : Option Addr) (len1 cap1 : Nat) (zs1 : List Int) (hs : act.eval s = .slice a1 len1 cap1) (lo hi1 : Nat) (hown : Own k e w lo hi1 a1 len1 cap1 zs1)
    (a2 : Option Addr) (len2 cap2 : Nat) (zs2 : List Int) (hx : act.eval x = .slice a2 len2 cap2) (hsee : Sees k w a2 len2 zs2) (h63 : len1 + len2 ≤ maxLen) (h47 : (len1 + len2) * bytes ≤ 140737488355328) (hlo : lo ≤ w.heap.size)
    (h : ∀ a' len' cap' w', len' = len1 + len2 → Own k e w' lo w'.heap.size a' len' cap' (zs1 ++ zs2) → Moved lo hi1 w w' → K (act.put o.dst (.slice a' len' cap')) w') :
    if Region.wanted o (yielded ops act.tmps) = true then Oper.wp P o act w K Q else E := by
  obtain ⟨a', len', cap', w', hr, h1, h2, h3⟩ := run_append_sees (P := P) w t o.type e i k bytes ht hi hz hsize hby a1 len1 cap1 zs1 lo hi1 hown a2 len2 cap2 zs2 hsee h63 h47 hlo
  rw [if_pos (by simp [Region.wanted, hgd])]
  exact oper_append_run w s x t ho _ _ hs hx _ w' hr (h a' len' cap' w' h1 h2 h3)
/-- At a guarded operation of a region that draws its order. -/
theorem step_append_on {P : Program} {w : World} {ops : Array Oper} {o : Oper} {act : Act} {K : Act → World → Prop} {Q : Exit → Act → World → Prop} {E : Prop} (hgd : Region.wanted o (yielded ops act.tmps) = true) (s x : Operand) (t : TypeId)
    (ho : o.op = .call { callee := .builtin .append, args := #[s, x], argTypes := #[t, t] }) (e : TypeId) (i : TypeInfo) (k : IntKind) (bytes : Nat) (ht : P.underlying t = some (.slice e)) (hi : P.info? e = some i)
    (hz : i.zero = some (.int k 0)) (hsize : i.size = 1) (hby : i.bytes = bytes) (a1 : Option Addr) (len1 cap1 : Nat) (zs1 : List Int) (hs : act.eval s = .slice a1 len1 cap1) (lo hi1 : Nat) (hown : Own k e w lo hi1 a1 len1 cap1 zs1)
    (a2 : Option Addr) (len2 cap2 : Nat) (zs2 : List Int) (hx : act.eval x = .slice a2 len2 cap2) (hsee : Sees k w a2 len2 zs2) (h63 : len1 + len2 ≤ maxLen) (h47 : (len1 + len2) * bytes ≤ 140737488355328) (hlo : lo ≤ w.heap.size)
    (h : ∀ a' len' cap' w', len' = len1 + len2 → Own k e w' lo w'.heap.size a' len' cap' (zs1 ++ zs2) → Moved lo hi1 w w' → K (act.put o.dst (.slice a' len' cap')) w') :
    if Region.wanted o (yielded ops act.tmps) = true then Oper.wp P o act w K Q else E := by
  obtain ⟨a', len', cap', w', hr, h1, h2, h3⟩ := run_append_sees (P := P) w t o.type e i k bytes ht hi hz hsize hby a1 len1 cap1 zs1 lo hi1 hown a2 len2 cap2 zs2 hsee h63 h47 hlo
  rw [if_pos hgd]
  exact oper_append_run w s x t ho _ _ hs hx _ w' hr (h a' len' cap' w' h1 h2 h3)
end Go.Proofs.Ytedkeobhcpbigaa
