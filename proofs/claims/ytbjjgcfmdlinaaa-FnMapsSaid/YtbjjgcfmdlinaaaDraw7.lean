/- Draws of chapter 7: networks. -/
import Derived.Test.YtbjjgcfmdlinaaaNetL
import Derived.Test.YtbjjgcfmdlinaaaDrawNum
import Derived.Test.YtbjjgcfmdlinaaaStepSl
import Derived.Deep.RegionLaw
namespace Go.Proofs.Ytbjjgcfmdlinaaa
open Go.RowKit
/-- One link goes behind others: they stay in their block, or go to a new one. -/
theorem run_append_lnk {P : Program} (w : World) (t ty : TypeId) (i : TypeInfo) (ht : P.underlying t = some (.slice 38)) (hi : P.info? 38 = some i)
    (hz : i.zero = some (.agg #[.int .i64 0, .int .i64 0])) (hsize : i.size = 2) (hby : i.bytes = 16) (a : Option Addr) (len cap : Nat) (ls : List (Int × Int)) (lo hi1 : Nat) (hown : OwnL w lo hi1 a len cap ls)
    (ad : Addr) (c2 : Nat) (p : Int × Int) (hsee : SeesL w (some ad) 1 [p]) (h8 : len ≤ 1073741824) (hlo : lo ≤ w.heap.size) :
    ∃ a' cap' w', (Builtin.append_ #[t, t] ty #[.slice a len cap, .slice (some ad) 1 c2]).run P w = .ok (.slice a' (len + 1) cap') w' ∧ OwnL w' lo w'.heap.size a' (len + 1) cap' (ls ++ [p]) ∧ w.grownBy w' (a.map Addr.block) ∧
      ∀ y, a' = some y → (∃ x, a = some x ∧ x.block = y.block) ∨ y.block = w.heap.size := by
  obtain ⟨v', w', hr, ho', hg, _, hat⟩ := run_append_own_at (P := P) w lo t ty 38 i _ 2 16 ht hi hz hsize hby rfl (by decide) _ len _ hown.2.2.2.1 ad 1 c2 ((flatL [p]).map (.int .i64)) (by simp [flatL]) (by
    intro j u hu
    have hj := (List.getElem?_eq_some_iff.1 hu).1
    simp [flatL] at hj
    rcases hsee.2.2 with h0 | ⟨b, off, ha, _, hc⟩
    · omega
    · obtain rfl := Option.some.inj ha
      have hcell := hc 0 (by omega)
      rw [add_plain]
      have : j = 0 ∨ j = 1 := by omega
      rcases this with rfl | rfl
      · simp [flatL] at hu
        rw [← hu]
        exact hcell.1
      · simp [flatL] at hu
        rw [← hu]
        exact hcell.2) (ints_oneCell _ _) (by unfold maxLen; omega) (by omega) hlo
  obtain ⟨a', cap', rfl⟩ := own_shapeL ho'
  have hO : OwnL w' lo w'.heap.size a' (len + 1) cap' (ls ++ [p]) := ownL_of (n := len + 1) (by rw [flatL_append, List.map_append]; exact ho') (hown.2.1.append hsee.2.1)
  refine ⟨a', cap', w', hr, hO, ?_, fun y hy => ?_⟩
  · have e : (Value.slice a len cap).ownBlock = a.map Addr.block := by cases a <;> rfl
    rw [e] at hg
    exact hg
  · subst hy
    rcases hat with h | h
    · left
      cases a with
      | none => simp [Value.ownBlock] at h
      | some x => exact ⟨x, rfl, by simpa [Value.ownBlock] using h.symm⟩
    · right
      simpa [Value.ownBlock] using h
/-- A network that is being drawn: its variable is block X, the result's is the first block of the call. -/
structure NetD (W w : World) (B X : Nat) (n : Int) (a : Option Addr) (len cap : Nat) (ls : List (Int × Int)) : Prop where
  hB : B < W.heap.size
  hX : W.heap.size < X
  lt : X < w.heap.size
  c0 : w.cell? ⟨X, 0, none⟩ = some (.int .i64 n)
  c1 : w.cell? ⟨X, 1, none⟩ = some (.slice a len cap)
  f0 : w.frozen? ⟨X, 0, none⟩ = false
  f1 : w.frozen? ⟨X, 1, none⟩ = false
  r0 : w.cell? ⟨W.heap.size, 0, none⟩ = some (.int .i64 0)
  r1 : w.cell? ⟨W.heap.size, 1, none⟩ = some (.slice none 0 0)
  g0 : w.frozen? ⟨W.heap.size, 0, none⟩ = false
  g1 : w.frozen? ⟨W.heap.size, 1, none⟩ = false
  own : OwnL w (W.heap.size + 1) w.heap.size a len cap ls
  ne : ∀ y, a = some y → y.block ≠ X
  cur : Cur w B
  gr : W.grownBy w (some B)
theorem NetD.turn {W w w' : World} {B X : Nat} {n : Int} {a a' : Option Addr} {len len' cap cap' : Nat} {ls ls' : List (Int × Int)} (h : NetD W w B X n a len cap ls) {row : Option Nat} (hg : w.grownBy w' row) (h1 : row ≠ some X) (h2 : row ≠ some W.heap.size)
    (ho : OwnL w' (W.heap.size + 1) w'.heap.size a' len' cap' ls') (hn : ∀ y, a' = some y → y.block ≠ X) (hc : Cur w' B) (hw : W.grownBy w' (some B)) (hc1 : a' = a ∧ len' = len ∧ cap' = cap) : NetD W w' B X n a' len' cap' ls' := by
  obtain ⟨rfl, rfl, rfl⟩ := hc1
  have hbX := hg.block X h.lt (Ne.symm h1)
  have hbR := hg.block W.heap.size (Nat.lt_trans h.hX h.lt) (Ne.symm h2)
  have cX := fun o => World.cell?_of_block (a := ⟨X, o, none⟩) hbX
  have cR := fun o => World.cell?_of_block (a := ⟨W.heap.size, o, none⟩) hbR
  have fX := fun o => World.frozen?_of_block (a := ⟨X, o, none⟩) hbX
  have fR := fun o => World.frozen?_of_block (a := ⟨W.heap.size, o, none⟩) hbR
  exact ⟨h.hB, h.hX, Nat.lt_of_lt_of_le h.lt hg.size, (cX 0).trans h.c0, (cX 1).trans h.c1, (fX 0).trans h.f0, (fX 1).trans h.f1, (cR 0).trans h.r0, (cR 1).trans h.r1, (fR 0).trans h.g0, (fR 1).trans h.g1, ho, hn, hc, hw⟩
theorem NetD.draw {W w w' : World} {B X : Nat} {n : Int} {a : Option Addr} {len cap : Nat} {ls : List (Int × Int)} (h : NetD W w B X n a len cap ls) (hc : Cur w' B) (hg : w.grownBy w' (some B)) : NetD W w' B X n a len cap ls := by
  have hB := h.hB
  have hX := h.hX
  refine h.turn hg (by simp; omega) (by simp; omega) ((h.own.moved (Moved.of_grown hg (lo := B) (hi := B + 1) (Nat.le_refl _) (Nat.lt_succ_self _)) (.inr (by omega))).wide (Nat.le_refl _) hg.size (Nat.le_refl _)) h.ne hc (grown_trans h.gr hg) ⟨rfl, rfl, rfl⟩
theorem NetD.below {W w w' : World} {B X : Nat} {n : Int} {a : Option Addr} {len cap : Nat} {ls : List (Int × Int)} (h : NetD W w B X n a len cap ls) (hb : Below w.heap.size w w') : NetD W w' B X n a len cap ls :=
  h.turn (row := none) (grown_of_below hb none) (by simp) (by simp) ((h.own.below hb).wide (Nat.le_refl _) hb.size (Nat.le_refl _)) h.ne (h.cur.belowN hb) (grown_trans h.gr (grown_of_below hb _)) ⟨rfl, rfl, rfl⟩
/-- The variable's slice is put in its place. -/
theorem NetD.store {W w w' : World} {B X : Nat} {n : Int} {a a' : Option Addr} {len len' cap cap' : Nat} {ls ls' : List (Int × Int)} (h : NetD W w B X n a len cap ls) {row : Option Nat} (hg : w.grownBy w' row) (h1 : row ≠ some X) (h2 : ∀ k, row = some k → W.heap.size < k)
    (ho : OwnL w' (W.heap.size + 1) w'.heap.size a' len' cap' ls') (hn : ∀ y, a' = some y → y.block ≠ X) : NetD W (w'.setCell ⟨X, 1, none⟩ (.slice a' len' cap')) B X n a' len' cap' ls' := by
  have hB := h.hB
  have hX := h.hX
  have hbX := hg.block X h.lt (Ne.symm h1)
  have hbR := hg.block W.heap.size (Nat.lt_trans h.hX h.lt) (fun e => by have := h2 _ e.symm; omega)
  have cX := fun o => World.cell?_of_block (a := ⟨X, o, none⟩) hbX
  have cR := fun o => World.cell?_of_block (a := ⟨W.heap.size, o, none⟩) hbR
  have fX := fun o => World.frozen?_of_block (a := ⟨X, o, none⟩) hbX
  have fR := fun o => World.frozen?_of_block (a := ⟨W.heap.size, o, none⟩) hbR
  have far : ∀ o, (w'.setCell ⟨X, 1, none⟩ (.slice a' len' cap')).cell? ⟨W.heap.size, o, none⟩ = w'.cell? ⟨W.heap.size, o, none⟩ := fun o => World.cell?_setCell_other w' _ _ _ (fun e => by have := congrArg Addr.block e; simp at this; omega)
  have hw' : W.grownBy w' (some B) := ⟨hg.os.trans h.gr.os, hg.tape.trans h.gr.tape, hg.output.trans h.gr.output, Nat.le_trans h.gr.size hg.size, fun k hk hne => (hg.block k (Nat.lt_of_lt_of_le hk h.gr.size) (fun e => by have := h2 _ e.symm; omega)).trans (h.gr.block k hk hne)⟩
  have hc' : Cur w' B := h.cur.kept hg (fun k e => by have := h2 k e; omega)
  refine ⟨h.hB, h.hX, ?_, ?_, ?_, ?_, ?_, ?_, ?_, ?_, ?_, ?_, hn, hc'.kept (grown_setCell _ _ _ _) (fun k e => by cases e; omega), grown_newset hw' _ (by omega)⟩
  · simpa [World.setCell] using Nat.lt_of_lt_of_le h.lt hg.size
  · exact (World.cell?_setCell_other w' _ _ _ (fun e => by have := congrArg Addr.off e; simp at this)).trans ((cX 0).trans h.c0)
  · exact World.cell?_setCell_same w' _ _ ((cX 1).trans h.c1)
  · simp only [World.frozen?_setCell]; exact (fX 0).trans h.f0
  · simp only [World.frozen?_setCell]; exact (fX 1).trans h.f1
  · exact (far 0).trans ((cR 0).trans h.r0)
  · exact (far 1).trans ((cR 1).trans h.r1)
  · simp only [World.frozen?_setCell]; exact (fR 0).trans h.g0
  · simp only [World.frozen?_setCell]; exact (fR 1).trans h.g1
  · have hm : Moved X (X + 1) w' (w'.setCell ⟨X, 1, none⟩ (.slice a' len' cap')) := Moved.of_grown (grown_setCell _ _ _ _) (Nat.le_refl _) (Nat.lt_succ_self _)
    obtain ⟨o1, o2, o3, o4, o5⟩ := ho
    refine ⟨o1, o2, by simp [World.setCell], ⟨o4.1, ?_⟩, fun y hy => ⟨(o5 y hy).1, by simpa [World.setCell] using (o5 y hy).2⟩⟩
    rcases o4.2 with h3 | ⟨g, c, cur, hv, hlo, hgb, rest⟩
    · exact .inl h3
    · refine .inr ⟨g, c, cur, hv, hlo, ?_, rest⟩
      have hgs := (Array.getElem?_eq_some_iff.1 hgb).1
      simp only [Value.slice.injEq, true_and] at hv
      have hne := hn _ hv.1
      simp only at hne
      rw [hm.block g hgs (by omega)]
      exact hgb
/-- Behind an append. -/
theorem NetD.more {W w w' : World} {B X : Nat} {n : Int} {a a' : Option Addr} {len cap cap' : Nat} {ls ls' : List (Int × Int)} (h : NetD W w B X n a len cap ls) (ho : OwnL w' (W.heap.size + 1) w'.heap.size a' (len + 1) cap' ls') (hg : w.grownBy w' (a.map Addr.block))
    (hat : ∀ y, a' = some y → (∃ x, a = some x ∧ x.block = y.block) ∨ y.block = w.heap.size) : NetD W (w'.setCell ⟨X, 1, none⟩ (.slice a' (len + 1) cap')) B X n a' (len + 1) cap' ls' := by
  refine h.store hg ?_ ?_ ho fun y hy => ?_
  · cases a with
    | none => simp
    | some x => simpa using h.ne x rfl
  · intro k hk
    cases a with
    | none => simp at hk
    | some x =>
      simp at hk
      have := (h.own.2.2.2.2 x rfl).1
      omega
  · have hlt := h.lt
    rcases hat y hy with ⟨x, hx, e⟩ | e
    · rw [← e]; exact h.ne x hx
    · omega
/-- So many nodes a draw gives. -/
def IsNd (n : Int) : Prop := 0 ≤ n ∧ n ≤ 9
/-- What such a draw leaves. -/
def DrewNet (B : Nat) (W : World) (e : Ending) (w' : World) : Prop := ∃ (n : Int) (a : Option Addr) (len cap : Nat) (ls : List (Int × Int)), IsNd n ∧ (1 ≤ len ∧ len ≤ 6) ∧ e = .returned (.agg #[.int .i64 n, .slice a len cap]) ∧ OwnL w' (W.heap.size + 1) w'.heap.size a len cap ls ∧ Cur w' B ∧ W.grownBy w' (some B)
theorem step_append_lnk {P : Program} {w : World} {ops : Array Oper} {o : Oper} {act : Act} {K : Act → World → Prop} {Q : Exit → Act → World → Prop} {E : Prop} (hgd : o.guard = none) (s x : Operand) (t : TypeId)
    (ho : o.op = .call { callee := .builtin .append, args := #[s, x], argTypes := #[t, t] }) (i : TypeInfo) (ht : P.underlying t = some (.slice 38)) (hi : P.info? 38 = some i)
    (hz : i.zero = some (.agg #[.int .i64 0, .int .i64 0])) (hsize : i.size = 2) (hby : i.bytes = 16) (a : Option Addr) (len cap : Nat) (ls : List (Int × Int)) (hs : act.eval s = .slice a len cap) (lo hi1 : Nat) (hown : OwnL w lo hi1 a len cap ls)
    (ad : Addr) (c2 : Nat) (p : Int × Int) (hx : act.eval x = .slice (some ad) 1 c2) (hsee : SeesL w (some ad) 1 [p]) (h8 : len ≤ 1073741824) (hlo : lo ≤ w.heap.size)
    (h : ∀ a' cap' w', OwnL w' lo w'.heap.size a' (len + 1) cap' (ls ++ [p]) → w.grownBy w' (a.map Addr.block) → (∀ y, a' = some y → (∃ x, a = some x ∧ x.block = y.block) ∨ y.block = w.heap.size) → K (act.put o.dst (.slice a' (len + 1) cap')) w') :
    if Region.wanted o (yielded ops act.tmps) = true then Oper.wp P o act w K Q else E := by
  obtain ⟨a', cap', w', hr, h1, h2, h3⟩ := run_append_lnk (P := P) w t o.type i ht hi hz hsize hby a len cap ls lo hi1 hown ad c2 p hsee h8 hlo
  rw [if_pos (by simp [Region.wanted, hgd])]
  exact oper_append_run w s x t ho _ _ hs hx _ w' hr (h a' cap' w' h1 h2 h3)
theorem wp_append_lnk {P : Program} {w : World} {ops : Array Oper} {rest : List Oper} {o : Oper} {act : Act} {Q : Exit → Act → World → Prop} (hgd : o.guard = none) (s x : Operand) (t : TypeId)
    (ho : o.op = .call { callee := .builtin .append, args := #[s, x], argTypes := #[t, t] }) (i : TypeInfo) (ht : P.underlying t = some (.slice 38)) (hi : P.info? 38 = some i)
    (hz : i.zero = some (.agg #[.int .i64 0, .int .i64 0])) (hsize : i.size = 2) (hby : i.bytes = 16) (a : Option Addr) (len cap : Nat) (ls : List (Int × Int)) (hs : act.eval s = .slice a len cap) (lo hi1 : Nat) (hown : OwnL w lo hi1 a len cap ls)
    (ad : Addr) (c2 : Nat) (p : Int × Int) (hx : act.eval x = .slice (some ad) 1 c2) (hsee : SeesL w (some ad) 1 [p]) (h8 : len ≤ 1073741824) (hlo : lo ≤ w.heap.size)
    (h : ∀ a' cap' w', OwnL w' lo w'.heap.size a' (len + 1) cap' (ls ++ [p]) → w.grownBy w' (a.map Addr.block) → (∀ y, a' = some y → (∃ x, a = some x ∧ x.block = y.block) ∨ y.block = w.heap.size) → wpList P ops Q rest (act.put o.dst (.slice a' (len + 1) cap')) w') :
    wpList P ops Q (o :: rest) act w := by
  obtain ⟨a', cap', w', hr, h1, h2, h3⟩ := run_append_lnk (P := P) w t o.type i ht hi hz hsize hby a len cap ls lo hi1 hown ad c2 p hsee h8 hlo
  refine wpList_plain hgd fun K hK => ?_
  exact oper_append_run w s x t ho _ _ hs hx _ w' hr (hK _ _ (h a' cap' w' h1 h2 h3))
end Go.Proofs.Ytbjjgcfmdlinaaa
/- Draws of chapter 7: a drawn network. -/
namespace Go.Proofs.Ytbjjgcfmdlinaaa
open Go.RowKit
theorem netD_new (W w1 : World) (B : Nat) (n : Int) (t t2 : TypeId) (hB : B < W.heap.size) (hg : (W.alloc (.cells #[.int .i64 0, .slice none 0 0] t)).grownBy w1 (some B)) (hc : Cur w1 B) : NetD W (w1.alloc (.cells #[.int .i64 n, .slice none 0 0] t2)) B w1.heap.size n none 0 0 [] := by
  have hs := hg.size
  simp at hs
  have hbR := hg.block W.heap.size (by simp) (by simp; omega)
  have hb := below_new w1 (.cells #[.int .i64 n, .slice none 0 0] t2)
  have cR : ∀ o, (w1.alloc (.cells #[.int .i64 n, .slice none 0 0] t2)).cell? ⟨W.heap.size, o, none⟩ = (W.alloc (.cells #[.int .i64 0, .slice none 0 0] t)).cell? ⟨W.heap.size, o, none⟩ := fun o => (hb.cell (p := ⟨W.heap.size, o, none⟩) (by simp; omega)).trans (World.cell?_of_block (a := ⟨W.heap.size, o, none⟩) hbR)
  have fR : ∀ o, (w1.alloc (.cells #[.int .i64 n, .slice none 0 0] t2)).frozen? ⟨W.heap.size, o, none⟩ = (W.alloc (.cells #[.int .i64 0, .slice none 0 0] t)).frozen? ⟨W.heap.size, o, none⟩ := fun o => (hb.frozen (p := ⟨W.heap.size, o, none⟩) (by simp; omega)).trans (World.frozen?_of_block (a := ⟨W.heap.size, o, none⟩) hbR)
  refine ⟨hB, by omega, by simp, by go_simp, by go_simp, by go_simp, by go_simp, (cR 0).trans (by go_simp), (cR 1).trans (by go_simp), (fR 0).trans (by go_simp), (fR 1).trans (by go_simp), ?_, (fun y hy => by cases hy), hc.alloc _, ?_⟩
  · exact ⟨rfl, (fun _ h => by cases h), Nat.le_refl _, ⟨rfl, .inl ⟨rfl, rfl⟩⟩, fun x hx => by cases hx⟩
  · exact grown_trans (grown_trans (World.grownBy_alloc W _ _) hg) (World.grownBy_alloc w1 _ _)
theorem NetD.cells {W w w' : World} {B X : Nat} {n : Int} {a : Option Addr} {len cap : Nat} {ls : List (Int × Int)} (h : NetD W w B X n a len cap ls) (hg : w.grownBy w' (a.map Addr.block)) : w'.cell? ⟨X, 1, none⟩ = some (.slice a len cap) ∧ w'.frozen? ⟨X, 1, none⟩ = false := by
  have hbX := hg.block X h.lt (fun e => by
    cases a with
    | none => simp at e
    | some x => simp at e; exact h.ne x rfl e.symm)
  exact ⟨(World.cell?_of_block (a := ⟨X, 1, none⟩) hbX).trans h.c1, (World.frozen?_of_block (a := ⟨X, 1, none⟩) hbX).trans h.f1⟩
set_option maxRecDepth 20000 in
set_option maxHeartbeats 3200000 in
theorem draw7_any (W : World) (B : Nat) (hc : Cur W B) : Calls Try.prog 80 #[.pointer (some ⟨B, 0, none⟩)] W (DrewNet B W) := by
  have HC := Lib.hid hc
  have hB := hc.lt
  clear hc
  obtain ⟨i0, hi, hz0, hz1, hz2⟩ := info_parts info_link
  go_enter Try.func80, Try.ntmps80
  go_wp2_with (go_at_call 63; refine (below_any _ B 4 (by decide) (HC.out.alloc _)).mono ?_; rintro e w1 ⟨x, ⟨hx0, hx1⟩, rfl, hc1, hg1⟩; have hx2 : x < 4 := (by omega); have HD1 := Lib.hid (netD_new W w1 B (4 + x) _ 26 hB hg1 hc1); clear hc1 hg1 hx1)
  obtain ⟨X, hX⟩ : ∃ X, X = w1.heap.size := ⟨_, rfl⟩
  rw [← hX] at HD1
  rw [← hX]
  obtain ⟨V, hV⟩ : ∃ V, V = w1.alloc (.cells #[.int .i64 (4 + x), .slice none 0 0] 26) := ⟨_, rfl⟩
  rw [← hV] at HD1
  rw [← hV]
  clear hV hX
  obtain ⟨n, hn⟩ : ∃ n, 4 + x = n := ⟨_, rfl⟩
  rw [hn] at HD1
  have hn4 : 4 ≤ n := by omega
  have hn7 : n ≤ 7 := by omega
  rw [hn]
  clear hn hx0 hx2
  go_loopw [4] (fun i wr => ∃ (l : Nat) (a' : Option Addr) (c' : Nat) (ls : List (Int × Int)), l ≤ 6 ∧ i = .int .i64 ((l : Int) + 1) ∧ Hid (NetD W wr B X n a' l c' ls)) (fun i _ => 8 - (intOf i).toNat)
  case atStart => exact ⟨0, none, 0, [], by omega, by simp, Lib.hid HD1.out⟩
  case round =>
    obtain ⟨l, a', c', ls, hl, rfl, HD⟩ := hrel
    have c0 := HD.out.c0
    have c1 := HD.out.c1
    by_cases h1 : (l : Int) + 1 < n
    · by_cases h2 : l < 6
      · have h3 : (l : Int) < 6 := by omega
        have f1 := HD.out.f1
        have HDD := Lib.hid (HD.out.below (Below.refl wr.heap.size wr).drew)
        go_wp2_with fail
        go_region_law (first
          | (refine step_append_lnk rfl _ _ 24 rfl i0 Try.underlying24 hi hz0 hz1 hz2 a' l c' ls rfl (W.heap.size + 1) _ (HD3.out.below (below_new _ _)).own _ _ (y, (l : Int) + 1) rfl (seesL_one (WalkArith.wf_i64 (by omega)) (WalkArith.wf_i64 (by omega)) _ _) (by omega) (by have h := HD3.out.hX; have h2 := HD3.out.lt; simp; omega) ?_; intro a7 c7 w7 ho7 hg7 hat7; have hcc := (HD3.out.below (below_new _ _)).cells hg7; have HN := Lib.hid ((HD3.out.below (below_new _ _)).more ho7 hg7 hat7); have c17 := hcc.1; have f17 := hcc.2; clear ho7 hg7 hat7 hcc)
          | (go_simp; go_at_call 63; refine (below_any _ B ((l : Int) + 1) (by omega) HDD.out.cur).mono ?_; rintro e w3 ⟨y, ⟨hy0, hy1⟩, rfl, hc3, hg3⟩; have hy2 : y ≤ 7 := (by omega); have HD3 := Lib.hid (HDD.out.draw hc3 hg3); have c13 := HD3.out.c1; have c13b := (HD3.out.below (below_new w3 (.cells #[.int .i64 y, .int .i64 ((l : Int) + 1)] 38))).c1; clear hc3 hg3 hy1))
        all_goals (go_wp2; go_roundw; (case rel => exact ⟨l + 1, a7, c7, _, by omega, by go_num, HN⟩); (case measure => simp [intOf]; omega))
      ·exfalso; omega
    · have HLL := Lib.hid (show 1 ≤ l ∧ l ≤ 6 by omega)
      clear hl
      go_wp2_with (go_at_call 63; refine (below_any _ B 3 (by decide) HD.out.cur).mono ?_; rintro e w4 ⟨z, ⟨hz0', hz1'⟩, rfl, hc4, hg4⟩; have hz3 : z < 3 := (by omega); have HD4 := Lib.hid (HD.out.draw hc4 hg4); clear hc4 hg4 hz1')
      obtain ⟨zn, rfl⟩ : ∃ k : Nat, z = k := ⟨z.toNat, by omega⟩
      clear c0 c1
      go_loopw [5, 6, 7] (fun i _ _ wr => ∃ (m l : Nat) (a' : Option Addr) (c' : Nat) (ls : List (Int × Int)), m ≤ 3 ∧ 1 ≤ l ∧ l ≤ 6 ∧ i = .int .i64 (m : Int) ∧ Hid (NetD W wr B X n a' l c' ls)) (fun i _ _ _ => (intOf i).toNat)
      case atStart => exact ⟨zn, l, a', c', ls, by omega, HLL.out.1, HLL.out.2, rfl, HD4⟩
      case round =>
        clear HD HD4
        obtain ⟨m, l, a', c', ls, hm3, hl1, hl6, rfl, HL⟩ := hrel
        by_cases h5 : 0 < m
        · have h5i : (0 : Int) < (m : Int) := by omega
          have c1 := HL.out.c1
          by_cases h6 : l < 6
          · have h6i : (l : Int) < 6 := by omega
            have c0 := HL.out.c0
            go_wp2_with fail
            go_at_call 63
            refine (below_any _ B n (by omega) HL.out.cur).mono ?_
            rintro e w5 ⟨u, ⟨hu0, hu1⟩, rfl, hc5, hg5⟩
            have hu2 : u ≤ 7 := by omega
            have HD5 := Lib.hid (HL.out.draw hc5 hg5)
            clear hc5 hg5 hu1
            have c0 := HD5.out.c0
            have c1 := HD5.out.c1
            go_wp2_with fail
            go_at_call 63
            refine (below_any _ B n (by omega) HD5.out.cur).mono ?_
            rintro e w6 ⟨v, ⟨hv0, hv1⟩, rfl, hc5, hg5⟩
            have hv2 : v ≤ 7 := by omega
            have HD6 := Lib.hid (HD5.out.draw hc5 hg5)
            clear hc5 hg5 hv1
            have c0 := HD6.out.c0
            have c1 := HD6.out.c1
            by_cases huv : u = v
            · subst huv
              go_wp2
              go_roundw
              case rel => exact ⟨m - 1, l, _, _, _, by omega, by omega, by omega, by go_num, HD6⟩
              case measure => simp [intOf]; omega
            · have huv2 : (u != v) = true := by simp [huv]
              obtain ⟨q, hq⟩ : ∃ q, lk ls u v = q := ⟨_, rfl⟩
              have HQ := Lib.hid hq
              clear hq
              by_cases hq0 : q < 0
              · go_wp2_with (first
                  | (go_at_call 60; refine (specLk_any _ n a' l c' ls u v (by omega) HD6.out.own.sees).mono ?_; rw [HQ.out]; rintro e w7 ⟨rfl, hb7⟩; have HD7 := Lib.hid (HD6.out.below hb7); have c1 := HD7.out.c1; clear hb7)
                  | (at_builtin; refine wp_append_lnk rfl _ _ 24 rfl i0 Try.underlying24 hi hz0 hz1 hz2 a' l c' ls rfl (W.heap.size + 1) _ (HD7.out.below (below_new _ _)).own _ _ (u, v) rfl (seesL_one (WalkArith.wf_i64 (by omega)) (WalkArith.wf_i64 (by omega)) _ _) (by omega) (by have h := HD7.out.hX; have h2 := HD7.out.lt; simp; omega) ?_; intro a8 c8 w8 ho8 hg8 hat8; have hcc := (HD7.out.below (below_new _ _)).cells hg8; have HN := Lib.hid ((HD7.out.below (below_new _ _)).more ho8 hg8 hat8); have c18 := hcc.1; have f18 := hcc.2; clear ho8 hg8 hat8 hcc))
                go_roundw
                case rel => exact ⟨m - 1, l + 1, _, _, _, by omega, by omega, by omega, by go_num, HN⟩
                case measure => simp [intOf]; omega
              · go_wp2_with (go_at_call 60; refine (specLk_any _ n a' l c' ls u v (by omega) HD6.out.own.sees).mono ?_; rw [HQ.out]; rintro e w7 ⟨rfl, hb7⟩; have HD7 := Lib.hid (HD6.out.below hb7); clear hb7)
                go_roundw
                case rel => exact ⟨m - 1, l, _, _, _, by omega, by omega, by omega, by go_num, HD7⟩
                case measure => simp [intOf]; omega
          · have h6i : ¬ (l : Int) < 6 := by omega
            have d0 := HL.out.c0
            have d1 := HL.out.c1
            have r0 := HL.out.r0
            have r1 := HL.out.r1
            have g0 := HL.out.g0
            have g1 := HL.out.g1
            have hXR := HL.out.hX
            go_wp2
            refine bodyPost_ret (v := .agg #[.int .i64 n, .slice a' l c']) (by simp [results, Try.results80, go_sem, r0, r1]) rfl ⟨n, a', l, c', ls, ⟨by omega, by omega⟩, ⟨hl1, hl6⟩, rfl, ?_, ?_, ?_⟩
            · have hm : Moved W.heap.size (W.heap.size + 1) wr ((wr.setCell ⟨W.heap.size, 0, none⟩ (.int .i64 n)).setCell ⟨W.heap.size, 1, none⟩ (.slice a' l c')) := (moved_set _ _ _ _ (Nat.le_refl _) (Nat.lt_succ_self _)).trans (moved_set _ _ _ _ (Nat.le_refl _) (Nat.lt_succ_self _))
              exact (HL.out.own.moved hm (.inr (Nat.le_refl _))).wide (Nat.le_refl _) hm.size (Nat.le_refl _)
            · exact (HL.out.cur.kept (grown_setCell _ _ _ _) (fun k e => by cases e; exact hB)).kept (grown_setCell _ _ _ _) (fun k e => by cases e; exact hB)
            · exact grown_newset (grown_newset HL.out.gr _ (Nat.le_refl _)) _ (Nat.le_refl _)
        · have h5i : ¬ (0 : Int) < (m : Int) := by omega
          have d0 := HL.out.c0
          have d1 := HL.out.c1
          have r0 := HL.out.r0
          have r1 := HL.out.r1
          have g0 := HL.out.g0
          have g1 := HL.out.g1
          have hXR := HL.out.hX
          go_wp2
          refine bodyPost_ret (v := .agg #[.int .i64 n, .slice a' l c']) (by simp [results, Try.results80, go_sem, r0, r1]) rfl ⟨n, a', l, c', ls, ⟨by omega, by omega⟩, ⟨hl1, hl6⟩, rfl, ?_, ?_, ?_⟩
          · have hm : Moved W.heap.size (W.heap.size + 1) wr ((wr.setCell ⟨W.heap.size, 0, none⟩ (.int .i64 n)).setCell ⟨W.heap.size, 1, none⟩ (.slice a' l c')) := (moved_set _ _ _ _ (Nat.le_refl _) (Nat.lt_succ_self _)).trans (moved_set _ _ _ _ (Nat.le_refl _) (Nat.lt_succ_self _))
            exact (HL.out.own.moved hm (.inr (Nat.le_refl _))).wide (Nat.le_refl _) hm.size (Nat.le_refl _)
          · exact (HL.out.cur.kept (grown_setCell _ _ _ _) (fun k e => by cases e; exact hB)).kept (grown_setCell _ _ _ _) (fun k e => by cases e; exact hB)
          · exact grown_newset (grown_newset HL.out.gr _ (Nat.le_refl _)) _ (Nat.le_refl _)
end Go.Proofs.Ytbjjgcfmdlinaaa
/- Draws of chapter 7: networks that may have a fault, and two nodes. -/
namespace Go.Proofs.Ytbjjgcfmdlinaaa
open Go.RowKit
theorem netD_from (W w1 : World) (B : Nat) (n : Int) (a : Option Addr) (len cap : Nat) (ls : List (Int × Int)) (t t2 : TypeId) (hB : B < W.heap.size) (hg : (W.alloc (.cells #[.int .i64 0, .slice none 0 0] t)).grownBy w1 (some B)) (hc : Cur w1 B) (ho : OwnL w1 (W.heap.size + 1) w1.heap.size a len cap ls) :
    NetD W (w1.alloc (.cells #[.int .i64 n, .slice a len cap] t2)) B w1.heap.size n a len cap ls := by
  have hs := hg.size
  simp at hs
  have hbR := hg.block W.heap.size (by simp) (by simp; omega)
  have hb := below_new w1 (.cells #[.int .i64 n, .slice a len cap] t2)
  have cR : ∀ o, (w1.alloc (.cells #[.int .i64 n, .slice a len cap] t2)).cell? ⟨W.heap.size, o, none⟩ = (W.alloc (.cells #[.int .i64 0, .slice none 0 0] t)).cell? ⟨W.heap.size, o, none⟩ := fun o => (hb.cell (p := ⟨W.heap.size, o, none⟩) (by simp; omega)).trans (World.cell?_of_block (a := ⟨W.heap.size, o, none⟩) hbR)
  have fR : ∀ o, (w1.alloc (.cells #[.int .i64 n, .slice a len cap] t2)).frozen? ⟨W.heap.size, o, none⟩ = (W.alloc (.cells #[.int .i64 0, .slice none 0 0] t)).frozen? ⟨W.heap.size, o, none⟩ := fun o => (hb.frozen (p := ⟨W.heap.size, o, none⟩) (by simp; omega)).trans (World.frozen?_of_block (a := ⟨W.heap.size, o, none⟩) hbR)
  refine ⟨hB, by omega, by simp, by go_simp, by go_simp, by go_simp, by go_simp, (cR 0).trans (by go_simp), (cR 1).trans (by go_simp), (fR 0).trans (by go_simp), (fR 1).trans (by go_simp), (ho.below hb).wide (Nat.le_refl _) hb.size (Nat.le_refl _), fun y hy => ?_, hc.alloc _, grown_trans (grown_trans (World.grownBy_alloc W _ _) hg) (World.grownBy_alloc w1 _ _)⟩
  have := (ho.2.2.2.2 y hy).2
  omega
/-- The number of nodes is put in its place. -/
theorem NetD.node {W w : World} {B X : Nat} {n : Int} {a : Option Addr} {len cap : Nat} {ls : List (Int × Int)} (h : NetD W w B X n a len cap ls) (n' : Int) : NetD W (w.setCell ⟨X, 0, none⟩ (.int .i64 n')) B X n' a len cap ls := by
  have hB := h.hB
  have hX := h.hX
  have far : ∀ o, (w.setCell ⟨X, 0, none⟩ (.int .i64 n')).cell? ⟨W.heap.size, o, none⟩ = w.cell? ⟨W.heap.size, o, none⟩ := fun o => World.cell?_setCell_other w _ _ _ (fun e => by have := congrArg Addr.block e; simp at this; omega)
  have hm : Moved X (X + 1) w (w.setCell ⟨X, 0, none⟩ (.int .i64 n')) := Moved.of_grown (grown_setCell _ _ _ _) (Nat.le_refl _) (Nat.lt_succ_self _)
  refine ⟨hB, hX, by simpa [World.setCell] using h.lt, World.cell?_setCell_same w _ _ h.c0, (World.cell?_setCell_other w _ _ _ (fun e => by have := congrArg Addr.off e; simp at this)).trans h.c1, by simp only [World.frozen?_setCell]; exact h.f0, by simp only [World.frozen?_setCell]; exact h.f1, (far 0).trans h.r0, (far 1).trans h.r1, by simp only [World.frozen?_setCell]; exact h.g0, by simp only [World.frozen?_setCell]; exact h.g1, ?_, h.ne, h.cur.kept (grown_setCell _ _ _ _) (fun k e => by cases e; omega), grown_newset h.gr _ (by omega)⟩
  obtain ⟨o1, o2, o3, o4, o5⟩ := h.own
  refine ⟨o1, o2, by simp [World.setCell], ⟨o4.1, ?_⟩, fun y hy => ⟨(o5 y hy).1, by simpa [World.setCell] using (o5 y hy).2⟩⟩
  rcases o4.2 with h3 | ⟨g, c, cur, hv, hlo, hgb, rest⟩
  · exact .inl h3
  · refine .inr ⟨g, c, cur, hv, hlo, ?_, rest⟩
    have hgs := (Array.getElem?_eq_some_iff.1 hgb).1
    simp only [Value.slice.injEq, true_and] at hv
    have hne := h.ne _ hv.1
    simp only at hne
    rw [hm.block g hgs (by omega)]
    exact hgb
/-- The first link's second end is put in its place. -/
theorem NetD.poke {W w : World} {B X g : Nat} {n : Int} {len cap : Nat} {ls : List (Int × Int)} (h : NetD W w B X n (some ⟨g, 0, none⟩) len cap ls) (hl : 1 ≤ len) (y : Int) (hy : (Lit.int .i64 y).wf = true) : ∃ ls', NetD W (w.setCell ⟨g, 1, none⟩ (.int .i64 y)) B X n (some ⟨g, 0, none⟩) len cap ls' := by
  have hB := h.hB
  have hX := h.hX
  have hgX := h.ne _ rfl
  simp only at hgX
  have hglo := (h.own.2.2.2.2 _ rfl).1
  simp only at hglo
  have hfit := h.own.2.1 _ (getL_mem (l := ls) (j := 0) (by rw [h.own.1]; exact hl))
  obtain ⟨o1, o2, o3, o4, o5⟩ := h.own
  have hst1 : ∃ ls', OwnL (w.setCell ⟨g, 1, none⟩ (.int .i64 y)) (W.heap.size + 1) w.heap.size (some ⟨g, 0, none⟩) len cap ls' := by
    cases ls with
    | nil => simp at o1; omega
    | cons p r =>
      have hs := (o4.stored 1 (.int .i64 y)).1
      refine ⟨(p.1, y) :: r, by simpa using o1, fun q hq => ?_, by simp [World.setCell], hs, o5⟩
      rcases List.mem_cons.1 hq with rfl | hq
      · exact ⟨hfit.1, hy⟩
      · exact o2 q (List.mem_cons_of_mem _ hq)
  obtain ⟨ls', hst1⟩ := hst1
  have far : ∀ b o, b ≠ g → (w.setCell ⟨g, 1, none⟩ (.int .i64 y)).cell? ⟨b, o, none⟩ = w.cell? ⟨b, o, none⟩ := fun b o hb => World.cell?_setCell_other w _ _ _ (fun e => by have := congrArg Addr.block e; simp at this; omega)
  refine ⟨_, hB, hX, by simpa [World.setCell] using h.lt, (far X 0 (Ne.symm hgX)).trans h.c0, (far X 1 (Ne.symm hgX)).trans h.c1, by simp only [World.frozen?_setCell]; exact h.f0, by simp only [World.frozen?_setCell]; exact h.f1, (far _ 0 (by omega)).trans h.r0, (far _ 1 (by omega)).trans h.r1, by simp only [World.frozen?_setCell]; exact h.g0, by simp only [World.frozen?_setCell]; exact h.g1, hst1.wide (Nat.le_refl _) (by simp [World.setCell]) (Nat.le_refl _), h.ne, h.cur.kept (grown_setCell _ _ _ _) (fun k e => by cases e; omega), grown_newset h.gr _ (by omega)⟩
def DrewAny (B : Nat) (W : World) (e : Ending) (w' : World) : Prop := ∃ (n : Int) (a : Option Addr) (len cap : Nat) (ls : List (Int × Int)), IsNd n ∧ len ≤ 7 ∧ e = .returned (.agg #[.int .i64 n, .slice a len cap]) ∧ OwnL w' (W.heap.size + 1) w'.heap.size a len cap ls ∧ Cur w' B ∧ W.grownBy w' (some B)
end Go.Proofs.Ytbjjgcfmdlinaaa
/- Draws of chapter 7: what the law draws. -/
namespace Go.Proofs.Ytbjjgcfmdlinaaa
open Go.RowKit
def GotNet (w : World) (e : Ending) (w' : World) : Prop :=
  ∃ (n : Int) (a : Option Addr) (len cap : Nat) (ls : List (Int × Int)) (x y : Int), len ≤ 7 ∧ IsI64 x ∧ IsI64 y ∧ e = .returned (.tuple #[.agg #[.int .i64 n, .slice a len cap], .int .i64 x, .int .i64 y]) ∧ SeesL w' a len ls ∧ (∀ p, a = some p → w.heap.size < p.block) ∧ Below w.heap.size w w'
theorem OwnL.grown {w w' : World} {lo hi B : Nat} {a : Option Addr} {len cap : Nat} {ls : List (Int × Int)} (h : OwnL w lo hi a len cap ls) (hg : w.grownBy w' (some B)) (hB : B < lo) : OwnL w' lo hi a len cap ls :=
  h.moved (Moved.of_grown hg (lo := B) (hi := B + 1) (Nat.le_refl _) (Nat.lt_succ_self _)) (.inr hB)
end Go.Proofs.Ytbjjgcfmdlinaaa
