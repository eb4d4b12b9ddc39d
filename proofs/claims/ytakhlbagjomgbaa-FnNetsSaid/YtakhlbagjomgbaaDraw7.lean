/- Draws of chapter 7: networks. -/
import Derived.Test.YtakhlbagjomgbaaNetL
import Derived.Test.YtakhlbagjomgbaaDrawNum
import Derived.Test.YtakhlbagjomgbaaStepSl
import Derived.Deep.RegionLaw
namespace Go.Proofs.Ytakhlbagjomgbaa
open Go.RowKit
/-- One link goes behind others: they stay in their block, or go to a new one. -/
theorem run_append_lnk {P : Program} (w : World) (t ty : TypeId) (i : TypeInfo) (ht : P.underlying t = some (.slice 57)) (hi : P.info? 57 = some i)
    (hz : i.zero = some (.agg #[.int .i64 0, .int .i64 0])) (hsize : i.size = 2) (hby : i.bytes = 16) (a : Option Addr) (len cap : Nat) (ls : List (Int × Int)) (lo hi1 : Nat) (hown : OwnL w lo hi1 a len cap ls)
    (ad : Addr) (c2 : Nat) (p : Int × Int) (hsee : SeesL w (some ad) 1 [p]) (h8 : len ≤ 1073741824) (hlo : lo ≤ w.heap.size) :
    ∃ a' cap' w', (Builtin.append_ #[t, t] ty #[.slice a len cap, .slice (some ad) 1 c2]).run P w = .ok (.slice a' (len + 1) cap') w' ∧ OwnL w' lo w'.heap.size a' (len + 1) cap' (ls ++ [p]) ∧ w.grownBy w' (a.map Addr.block) ∧
      ∀ y, a' = some y → (∃ x, a = some x ∧ x.block = y.block) ∨ y.block = w.heap.size := by
  obtain ⟨v', w', hr, ho', hg, _, hat⟩ := run_append_own_at (P := P) w lo t ty 57 i _ 2 16 ht hi hz hsize hby rfl (by decide) _ len _ hown.2.2.2.1 ad 1 c2 ((flatL [p]).map (.int .i64)) (by simp [flatL]) (by
    intro j u hu
    have hj := (List.getElem?_eq_some_iff.1 hu).1
    simp [flatL] at hj
    rcases hsee.2.2 with h0 | ⟨b, off, ha, _, hc⟩
    · omega
    · obtain rfl := Option.some.inj ha
      have hcell := hc 0 (by omega)
      rw [add_plain]
      have : j = 0 ∨ j = 1 := by omega
      rcases this with rfl | rfl
      · simp [flatL] at hu
        rw [← hu]
        exact hcell.1
      · simp [flatL] at hu
        rw [← hu]
        exact hcell.2) (ints_oneCell _ _) (by unfold maxLen; omega) (by omega) hlo
  obtain ⟨a', cap', rfl⟩ := own_shapeL ho'
  have hO : OwnL w' lo w'.heap.size a' (len + 1) cap' (ls ++ [p]) := ownL_of (n := len + 1) (by rw [flatL_append, List.map_append]; exact ho') (hown.2.1.append hsee.2.1)
  refine ⟨a', cap', w', hr, hO, ?_, fun y hy => ?_⟩
  · have e : (Value.slice a len cap).ownBlock = a.map Addr.block := by cases a <;> rfl
    rw [e] at hg
    exact hg
  · subst hy
    rcases hat with h | h
    · left
      cases a with
      | none => simp [Value.ownBlock] at h
      | some x => exact ⟨x, rfl, by simpa [Value.ownBlock] using h.symm⟩
    · right
      simpa [Value.ownBlock] using h
/-- A network that is being drawn: its variable is block X, the result's is the first block of the call. -/
structure NetD (W w : World) (B X : Nat) (n : Int) (a : Option Addr) (len cap : Nat) (ls : List (Int × Int)) : Prop where
  hB : B < W.heap.size
  hX : W.heap.size < X
  lt : X < w.heap.size
  c0 : w.cell? ⟨X, 0, none⟩ = some (.int .i64 n)
  c1 : w.cell? ⟨X, 1, none⟩ = some (.slice a len cap)
  f0 : w.frozen? ⟨X, 0, none⟩ = false
  f1 : w.frozen? ⟨X, 1, none⟩ = false
  r0 : w.cell? ⟨W.heap.size, 0, none⟩ = some (.int .i64 0)
  r1 : w.cell? ⟨W.heap.size, 1, none⟩ = some (.slice none 0 0)
  g0 : w.frozen? ⟨W.heap.size, 0, none⟩ = false
  g1 : w.frozen? ⟨W.heap.size, 1, none⟩ = false
  own : OwnL w (W.heap.size + 1) w.heap.size a len cap ls
  ne : ∀ y, a = some y → y.block ≠ X
  cur : Cur w B
  gr : W.grownBy w (some B)
theorem NetD.turn {W w w' : World} {B X : Nat} {n : Int} {a a' : Option Addr} {len len' cap cap' : Nat} {ls ls' : List (Int × Int)} (h : NetD W w B X n a len cap ls) {row : Option Nat} (hg : w.grownBy w' row) (h1 : row ≠ some X) (h2 : row ≠ some W.heap.size)
    (ho : OwnL w' (W.heap.size + 1) w'.heap.size a' len' cap' ls') (hn : ∀ y, a' = some y → y.block ≠ X) (hc : Cur w' B) (hw : W.grownBy w' (some B)) (hc1 : a' = a ∧ len' = len ∧ cap' = cap) : NetD W w' B X n a' len' cap' ls' := by
  obtain ⟨rfl, rfl, rfl⟩ := hc1
  have hbX := hg.block X h.lt (Ne.symm h1)
  have hbR := hg.block W.heap.size (Nat.lt_trans h.hX h.lt) (Ne.symm h2)
  have cX := fun o => World.cell?_of_block (a := ⟨X, o, none⟩) hbX
  have cR := fun o => World.cell?_of_block (a := ⟨W.heap.size, o, none⟩) hbR
  have fX := fun o => World.frozen?_of_block (a := ⟨X, o, none⟩) hbX
  have fR := fun o => World.frozen?_of_block (a := ⟨W.heap.size, o, none⟩) hbR
  exact ⟨h.hB, h.hX, Nat.lt_of_lt_of_le h.lt hg.size, (cX 0).trans h.c0, (cX 1).trans h.c1, (fX 0).trans h.f0, (fX 1).trans h.f1, (cR 0).trans h.r0, (cR 1).trans h.r1, (fR 0).trans h.g0, (fR 1).trans h.g1, ho, hn, hc, hw⟩
theorem NetD.draw {W w w' : World} {B X : Nat} {n : Int} {a : Option Addr} {len cap : Nat} {ls : List (Int × Int)} (h : NetD W w B X n a len cap ls) (hc : Cur w' B) (hg : w.grownBy w' (some B)) : NetD W w' B X n a len cap ls := by
  have hB := h.hB
  have hX := h.hX
  refine h.turn hg (by simp; omega) (by simp; omega) ((h.own.moved (Moved.of_grown hg (lo := B) (hi := B + 1) (Nat.le_refl _) (Nat.lt_succ_self _)) (.inr (by omega))).wide (Nat.le_refl _) hg.size (Nat.le_refl _)) h.ne hc (grown_trans h.gr hg) ⟨rfl, rfl, rfl⟩
theorem NetD.below {W w w' : World} {B X : Nat} {n : Int} {a : Option Addr} {len cap : Nat} {ls : List (Int × Int)} (h : NetD W w B X n a len cap ls) (hb : Below w.heap.size w w') : NetD W w' B X n a len cap ls :=
  h.turn (row := none) (grown_of_below hb none) (by simp) (by simp) ((h.own.below hb).wide (Nat.le_refl _) hb.size (Nat.le_refl _)) h.ne (h.cur.belowN hb) (grown_trans h.gr (grown_of_below hb _)) ⟨rfl, rfl, rfl⟩
/-- The variable's slice is put in its place. -/
theorem NetD.store {W w w' : World} {B X : Nat} {n : Int} {a a' : Option Addr} {len len' cap cap' : Nat} {ls ls' : List (Int × Int)} (h : NetD W w B X n a len cap ls) {row : Option Nat} (hg : w.grownBy w' row) (h1 : row ≠ some X) (h2 : ∀ k, row = some k → W.heap.size < k)
    (ho : OwnL w' (W.heap.size + 1) w'.heap.size a' len' cap' ls') (hn : ∀ y, a' = some y → y.block ≠ X) : NetD W (w'.setCell ⟨X, 1, none⟩ (.slice a' len' cap')) B X n a' len' cap' ls' := by
  have hB := h.hB
  have hX := h.hX
  have hbX := hg.block X h.lt (Ne.symm h1)
  have hbR := hg.block W.heap.size (Nat.lt_trans h.hX h.lt) (fun e => by have := h2 _ e.symm; omega)
  have cX := fun o => World.cell?_of_block (a := ⟨X, o, none⟩) hbX
  have cR := fun o => World.cell?_of_block (a := ⟨W.heap.size, o, none⟩) hbR
  have fX := fun o => World.frozen?_of_block (a := ⟨X, o, none⟩) hbX
  have fR := fun o => World.frozen?_of_block (a := ⟨W.heap.size, o, none⟩) hbR
  have far : ∀ o, (w'.setCell ⟨X, 1, none⟩ (.slice a' len' cap')).cell? ⟨W.heap.size, o, none⟩ = w'.cell? ⟨W.heap.size, o, none⟩ := fun o => World.cell?_setCell_other w' _ _ _ (fun e => by have := congrArg Addr.block e; simp at this; omega)
  have hw' : W.grownBy w' (some B) := ⟨hg.os.trans h.gr.os, hg.tape.trans h.gr.tape, hg.output.trans h.gr.output, Nat.le_trans h.gr.size hg.size, fun k hk hne => (hg.block k (Nat.lt_of_lt_of_le hk h.gr.size) (fun e => by have := h2 _ e.symm; omega)).trans (h.gr.block k hk hne)⟩
  have hc' : Cur w' B := h.cur.kept hg (fun k e => by have := h2 k e; omega)
  refine ⟨h.hB, h.hX, ?_, ?_, ?_, ?_, ?_, ?_, ?_, ?_, ?_, ?_, hn, hc'.kept (grown_setCell _ _ _ _) (fun k e => by cases e; omega), grown_newset hw' _ (by omega)⟩
  · simpa [World.setCell] using Nat.lt_of_lt_of_le h.lt hg.size
  · exact (World.cell?_setCell_other w' _ _ _ (fun e => by have := congrArg Addr.off e; simp at this)).trans ((cX 0).trans h.c0)
  · exact World.cell?_setCell_same w' _ _ ((cX 1).trans h.c1)
  · simp only [World.frozen?_setCell]; exact (fX 0).trans h.f0
  · simp only [World.frozen?_setCell]; exact (fX 1).trans h.f1
  · exact (far 0).trans ((cR 0).trans h.r0)
  · exact (far 1).trans ((cR 1).trans h.r1)
  · simp only [World.frozen?_setCell]; exact (fR 0).trans h.g0
  · simp only [World.frozen?_setCell]; exact (fR 1).trans h.g1
  · have hm : Moved X (X + 1) w' (w'.setCell ⟨X, 1, none⟩ (.slice a' len' cap')) := Moved.of_grown (grown_setCell _ _ _ _) (Nat.le_refl _) (Nat.lt_succ_self _)
    obtain ⟨o1, o2, o3, o4, o5⟩ := ho
    refine ⟨o1, o2, by simp [World.setCell], ⟨o4.1, ?_⟩, fun y hy => ⟨(o5 y hy).1, by simpa [World.setCell] using (o5 y hy).2⟩⟩
    rcases o4.2 with h3 | ⟨g, c, cur, hv, hlo, hgb, rest⟩
    · exact .inl h3
    · refine .inr ⟨g, c, cur, hv, hlo, ?_, rest⟩
      have hgs := (Array.getElem?_eq_some_iff.1 hgb).1
      simp only [Value.slice.injEq, true_and] at hv
      have hne := hn _ hv.1
      simp only at hne
      rw [hm.block g hgs (by omega)]
      exact hgb
/-- Behind an append. -/
theorem NetD.more {W w w' : World} {B X : Nat} {n : Int} {a a' : Option Addr} {len cap cap' : Nat} {ls ls' : List (Int × Int)} (h : NetD W w B X n a len cap ls) (ho : OwnL w' (W.heap.size + 1) w'.heap.size a' (len + 1) cap' ls') (hg : w.grownBy w' (a.map Addr.block))
    (hat : ∀ y, a' = some y → (∃ x, a = some x ∧ x.block = y.block) ∨ y.block = w.heap.size) : NetD W (w'.setCell ⟨X, 1, none⟩ (.slice a' (len + 1) cap')) B X n a' (len + 1) cap' ls' := by
  refine h.store hg ?_ ?_ ho fun y hy => ?_
  · cases a with
    | none => simp
    | some x => simpa using h.ne x rfl
  · intro k hk
    cases a with
    | none => simp at hk
    | some x =>
      simp at hk
      have := (h.own.2.2.2.2 x rfl).1
      omega
  · have hlt := h.lt
    rcases hat y hy with ⟨x, hx, e⟩ | e
    · rw [← e]; exact h.ne x hx
    · omega
/-- What such a draw leaves. -/
def DrewNet (B : Nat) (W : World) (e : Ending) (w' : World) : Prop := ∃ (n : Int) (a : Option Addr) (len cap : Nat) (ls : List (Int × Int)), IsI64 n ∧ (1 ≤ len ∧ len ≤ 6) ∧ e = .returned (.agg #[.int .i64 n, .slice a len cap]) ∧ OwnL w' (W.heap.size + 1) w'.heap.size a len cap ls ∧ Cur w' B ∧ W.grownBy w' (some B)
theorem step_append_lnk {P : Program} {w : World} {ops : Array Oper} {o : Oper} {act : Act} {K : Act → World → Prop} {Q : Exit → Act → World → Prop} {E : Prop} (hgd : o.guard = none) (s x : Operand) (t : TypeId)
    (ho : o.op = .call { callee := .builtin .append, args := #[s, x], argTypes := #[t, t] }) (i : TypeInfo) (ht : P.underlying t = some (.slice 57)) (hi : P.info? 57 = some i)
    (hz : i.zero = some (.agg #[.int .i64 0, .int .i64 0])) (hsize : i.size = 2) (hby : i.bytes = 16) (a : Option Addr) (len cap : Nat) (ls : List (Int × Int)) (hs : act.eval s = .slice a len cap) (lo hi1 : Nat) (hown : OwnL w lo hi1 a len cap ls)
    (ad : Addr) (c2 : Nat) (p : Int × Int) (hx : act.eval x = .slice (some ad) 1 c2) (hsee : SeesL w (some ad) 1 [p]) (h8 : len ≤ 1073741824) (hlo : lo ≤ w.heap.size)
    (h : ∀ a' cap' w', OwnL w' lo w'.heap.size a' (len + 1) cap' (ls ++ [p]) → w.grownBy w' (a.map Addr.block) → (∀ y, a' = some y → (∃ x, a = some x ∧ x.block = y.block) ∨ y.block = w.heap.size) → K (act.put o.dst (.slice a' (len + 1) cap')) w') :
    if Region.wanted o (yielded ops act.tmps) = true then Oper.wp P o act w K Q else E := by
  obtain ⟨a', cap', w', hr, h1, h2, h3⟩ := run_append_lnk (P := P) w t o.type i ht hi hz hsize hby a len cap ls lo hi1 hown ad c2 p hsee h8 hlo
  rw [if_pos (by simp [Region.wanted, hgd])]
  exact oper_append_run w s x t ho _ _ hs hx _ w' hr (h a' cap' w' h1 h2 h3)
theorem wp_append_lnk {P : Program} {w : World} {ops : Array Oper} {rest : List Oper} {o : Oper} {act : Act} {Q : Exit → Act → World → Prop} (hgd : o.guard = none) (s x : Operand) (t : TypeId)
    (ho : o.op = .call { callee := .builtin .append, args := #[s, x], argTypes := #[t, t] }) (i : TypeInfo) (ht : P.underlying t = some (.slice 57)) (hi : P.info? 57 = some i)
    (hz : i.zero = some (.agg #[.int .i64 0, .int .i64 0])) (hsize : i.size = 2) (hby : i.bytes = 16) (a : Option Addr) (len cap : Nat) (ls : List (Int × Int)) (hs : act.eval s = .slice a len cap) (lo hi1 : Nat) (hown : OwnL w lo hi1 a len cap ls)
    (ad : Addr) (c2 : Nat) (p : Int × Int) (hx : act.eval x = .slice (some ad) 1 c2) (hsee : SeesL w (some ad) 1 [p]) (h8 : len ≤ 1073741824) (hlo : lo ≤ w.heap.size)
    (h : ∀ a' cap' w', OwnL w' lo w'.heap.size a' (len + 1) cap' (ls ++ [p]) → w.grownBy w' (a.map Addr.block) → (∀ y, a' = some y → (∃ x, a = some x ∧ x.block = y.block) ∨ y.block = w.heap.size) → wpList P ops Q rest (act.put o.dst (.slice a' (len + 1) cap')) w') :
    wpList P ops Q (o :: rest) act w := by
  obtain ⟨a', cap', w', hr, h1, h2, h3⟩ := run_append_lnk (P := P) w t o.type i ht hi hz hsize hby a len cap ls lo hi1 hown ad c2 p hsee h8 hlo
  refine wpList_plain hgd fun K hK => ?_
  exact oper_append_run w s x t ho _ _ hs hx _ w' hr (hK _ _ (h a' cap' w' h1 h2 h3))
end Go.Proofs.Ytakhlbagjomgbaa
