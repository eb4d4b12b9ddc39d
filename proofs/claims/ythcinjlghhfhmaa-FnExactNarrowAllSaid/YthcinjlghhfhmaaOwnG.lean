/- Rows of values of one cell each (bools and the like) of a call's own; the library's Repeat of one bool. -/
import Derived.Test.YthcinjlghhfhmaaSlA
import Derived.Laws.CopyRow
import Derived.Deep.RegionHeld3
namespace Go.Proofs.Ythcinjlghhfhmaa
open Go.RowKit
def OwnG (e : TypeId) (w : World) (lo hi : Nat) (a : Option Addr) (len cap : Nat) (vs : List Value) : Prop :=
  vs.length = len ∧ (∀ v ∈ vs, v.oneCell' = true) ∧ hi ≤ w.heap.size ∧ w.ownsRow lo e 1 (.slice a len cap) len vs ∧ (∀ x, a = some x → lo ≤ x.block ∧ x.block < hi)
theorem OwnG.moved {e : TypeId} {w w' : World} {lo hi lo2 hi2 : Nat} {a : Option Addr} {len cap : Nat} {vs : List Value} (h : OwnG e w lo hi a len cap vs) (hm : Moved lo2 hi2 w w') (ho : hi ≤ lo2 ∨ hi2 ≤ lo) : OwnG e w' lo hi a len cap vs := by
  obtain ⟨h1, h2, h3, h4, h5⟩ := h
  refine ⟨h1, h2, Nat.le_trans h3 hm.size, ⟨h4.1, ?_⟩, h5⟩
  rcases h4.2 with h | ⟨g, c, cur, hv, hlo, hg, rest⟩
  · exact .inl h
  · refine .inr ⟨g, c, cur, hv, hlo, ?_, rest⟩
    have hgs := (Array.getElem?_eq_some_iff.1 hg).1
    simp only [Value.slice.injEq, true_and] at hv
    have hb := h5 _ hv.1
    simp only at hb
    rw [hm.block g hgs (by omega)]
    exact hg
theorem OwnG.below {e : TypeId} {w w' : World} {lo hi : Nat} {a : Option Addr} {len cap : Nat} {vs : List Value} (h : OwnG e w lo hi a len cap vs) (hb : Below w.heap.size w w') : OwnG e w' lo hi a len cap vs :=
  h.moved (Moved.of_below (lo := hi) (hi := hi) hb) (.inl (Nat.le_refl _))
theorem OwnG.wide {e : TypeId} {w : World} {lo hi lo2 hi2 : Nat} {a : Option Addr} {len cap : Nat} {vs : List Value} (h : OwnG e w lo hi a len cap vs) (h1 : lo2 ≤ lo) (h2 : hi ≤ hi2) (h3 : hi2 ≤ w.heap.size) : OwnG e w lo2 hi2 a len cap vs := by
  obtain ⟨g1, g2, g3, g4, g5⟩ := h
  refine ⟨g1, g2, h3, ⟨g4.1, ?_⟩, fun x hx => ⟨Nat.le_trans h1 (g5 x hx).1, Nat.lt_of_lt_of_le (g5 x hx).2 h2⟩⟩
  rcases g4.2 with h | ⟨g, c, cur, hv, hlo, rest⟩
  · exact .inl h
  · exact .inr ⟨g, c, cur, hv, Nat.le_trans h1 hlo, rest⟩
/-- An own row is a row of just its block. -/
theorem OwnG.tight {e : TypeId} {w : World} {lo hi g len cap : Nat} {vs : List Value} (h : OwnG e w lo hi (some ⟨g, 0, none⟩) len cap vs) : OwnG e w g (g + 1) (some ⟨g, 0, none⟩) len cap vs := by
  obtain ⟨g1, g2, g3, g4, g5⟩ := h
  have hb := g5 _ rfl
  simp only at hb
  refine ⟨g1, g2, by omega, ⟨g4.1, ?_⟩, fun x hx => by cases hx; exact ⟨Nat.le_refl _, Nat.lt_succ_self _⟩⟩
  rcases g4.2 with ⟨h, _⟩ | ⟨g', c, cur, hv, hlo, rest⟩
  · cases h
  · simp only [Value.slice.injEq, Option.some.injEq, Addr.mk.injEq, and_true, true_and] at hv
    obtain ⟨rfl, rfl⟩ := hv
    exact .inr ⟨g, cap, cur, rfl, Nat.le_refl _, rest⟩
theorem OwnG.cells {e : TypeId} {w : World} {lo hi g len cap : Nat} {vs : List Value} (h : OwnG e w lo hi (some ⟨g, 0, none⟩) len cap vs) (j : Nat) (hj : j < len) : w.cell? ⟨g, j, none⟩ = vs[j]? ∧ w.frozen? ⟨g, j, none⟩ = false := by
  obtain ⟨h1, h2, h3, h4, h5⟩ := h
  exact ⟨h4.cellAt j (by omega), h4.frozenAt j⟩
theorem OwnG.stored {e : TypeId} {w : World} {lo hi g len cap : Nat} {vs : List Value} (h : OwnG e w lo hi (some ⟨g, 0, none⟩) len cap vs) (j : Nat) (v : Value) (hv : v.oneCell' = true) :
    OwnG e (w.setCell ⟨g, j, none⟩ v) lo hi (some ⟨g, 0, none⟩) len cap (vs.set j v) ∧ Moved lo hi w (w.setCell ⟨g, j, none⟩ v) := by
  obtain ⟨h1, h2, h3, h4, h5⟩ := h
  obtain ⟨s1, s2⟩ := h4.stored j v
  have hb := h5 _ rfl
  simp only at hb
  refine ⟨⟨by simpa using h1, fun u hu => ?_, by simpa [World.setCell] using h3, s1, h5⟩, Moved.of_grown s2 hb.1 hb.2⟩
  rcases List.mem_or_eq_of_mem_set hu with hm | rfl
  · exact h2 u hm
  · exact hv
theorem ownG_of {e : TypeId} {w : World} {lo n : Nat} {a : Option Addr} {len cap : Nat} {vs : List Value} (h : w.ownsRow lo e 1 (.slice a len cap) n vs) (hw : ∀ v ∈ vs, v.oneCell' = true) : OwnG e w lo w.heap.size a len cap vs := by
  have hn : vs.length = n := by have := h.1; simpa using this
  have hl : len = n := by
    rcases h.2 with ⟨hv, h0⟩ | ⟨g, c, cur, hv, _⟩
    · simp only [Value.slice.injEq] at hv; omega
    · simp only [Value.slice.injEq] at hv; exact hv.2.1
  subst hl
  refine ⟨hn, hw, Nat.le_refl _, h, fun x hx => ?_⟩
  subst hx
  exact h.lt x.block rfl
theorem spliceG {α : Type} (A F cs : List α) (a L : Nat) (h : A.take L = F) (hl : a + cs.length ≤ L) (hA : L ≤ A.length) : (A.take a ++ cs ++ A.drop (a + cs.length)).take L = F.take a ++ (cs ++ F.drop (a + cs.length)) := by
  subst h
  rw [List.take_append, List.take_of_length_le (by simp; omega), List.append_assoc]
  congr 1
  · rw [List.take_take, Nat.min_eq_left (by omega)]
  · congr 1
    rw [List.length_append, List.length_take, Nat.min_eq_left (by omega), List.drop_take]
theorem run_copy_ownG {P : Program} {e : TypeId} (w : World) (dT sT ty : TypeId) (i : TypeInfo) (hu : P.underlying dT = some (.slice e)) (hi : P.info? e = some i) (hsize : i.size = 1) {lo hi2 g len cap : Nat} {xs : List Value} (h : OwnG e w lo hi2 (some ⟨g, 0, none⟩) len cap xs)
    (o dLen dCap : Nat) (a : Addr) (sLen sCap : Nat) (ps : List Value) (hn : ps.length = Nat.min sLen dLen) (hfit : o + ps.length ≤ len) (hf : ∀ v ∈ ps, v.oneCell' = true) (hsrc : ∀ j v, ps[j]? = some v → w.cell? (a.add j) = some v) :
    ∃ w', (Builtin.copy_ #[dT, sT] ty #[.slice (some ⟨g, o, none⟩) dLen dCap, .slice (some a) sLen sCap]).run P w = .ok (goInt ps.length) w' ∧ OwnG e w' lo hi2 (some ⟨g, 0, none⟩) len cap (xs.take o ++ (ps ++ xs.drop (o + ps.length))) ∧ Moved lo hi2 w w' := by
  obtain ⟨h1, h2, h3, h4, h5⟩ := h
  have hb := h5 _ rfl
  simp only at hb
  rcases h4.2 with ⟨hv, _⟩ | ⟨g', c, cur, hv, hlo, hg, hnc, hcm, hcs, htk⟩
  · cases hv
  simp only [Value.slice.injEq, Option.some.injEq, Addr.mk.injEq, and_true, true_and] at hv
  obtain ⟨rfl, rfl⟩ := hv
  have hl := run_loadCells_list (P := P) w a ps hsrc
  have hst := run_storeCells_at P g o e ps 0 cur w hg (by rw [hcs]; omega) hf
  obtain ⟨row, hrow⟩ : ∃ row, row = (cur.toList.take (o + 0) ++ ps ++ cur.toList.drop (o + 0 + ps.length)).toArray := ⟨_, rfl⟩
  rw [← hrow] at hst
  refine ⟨w.setRow g row, ?_, ⟨?_, ?_, ?_, ?_, h5⟩, ?_⟩
  rotate_left
  · simp only [List.length_append, List.length_take, List.length_drop]; omega
  · intro p hp
    rcases List.mem_append.1 hp with hp | hp
    · exact h2 p (List.mem_of_mem_take hp)
    · rcases List.mem_append.1 hp with hp | hp
      · exact hf p hp
      · exact h2 p (List.mem_of_mem_drop hp)
  · simpa [World.setRow] using h3
  · refine ⟨by simp only [List.length_append, List.length_take, List.length_drop]; omega, .inr ⟨g, cap, row, rfl, hlo, setRow_heap w g cur _ e _ hg, hnc, hcm, ?_, ?_⟩⟩
    · rw [hrow]
      simp only [List.size_toArray, List.length_append, List.length_take, List.length_drop, Array.length_toList]; omega
    · have q := spliceG cur.toList xs ps (o + 0) (len * 1) htk (by omega) (by rw [Array.length_toList, hcs]; omega)
      rw [Nat.add_zero] at q
      rw [hrow, Nat.add_zero]
      exact q
  · exact ⟨rfl, rfl, rfl, by simp [World.setRow], fun k hk hne => setRow_other w g k _ (by omega)⟩
  · simp [Builtin.copy_, run_underlying hu, Builtin.lenOf, Builtin.firstCells, sizeOf, typeInfo, hi, hsize, ← hn]
    rw [hl]
    simp [hst]
/-- The first k are p, the rest z. -/
def upG (p z : Value) (n k : Nat) : List Value := List.replicate k p ++ List.replicate (n - k) z
theorem upG_zero (p z : Value) (n : Nat) : upG p z n 0 = List.replicate n z := by simp [upG]
theorem upG_all (p z : Value) (n : Nat) : upG p z n n = List.replicate n p := by simp [upG]
theorem upG_next (p z : Value) {n k m : Nat} (h : k + m ≤ n) : (upG p z n k).take k ++ (List.replicate m p ++ (upG p z n k).drop (k + m)) = upG p z n (k + m) := by
  unfold upG
  rw [List.take_left' (by simp), List.drop_append, List.drop_of_length_le (by simp), List.nil_append, List.drop_replicate, List.length_replicate, ← List.append_assoc, List.replicate_append_replicate]
  congr 2
  omega
theorem upG_at (p z : Value) {n k m j : Nat} {v : Value} (hm : m ≤ k) (h : (List.replicate m p)[j]? = some v) : (upG p z n k)[j]? = some v := by
  unfold upG
  have hj := (List.getElem?_eq_some_iff.1 h).1
  simp only [List.length_replicate] at hj
  rw [List.getElem?_append_left (by simpa using Nat.lt_of_lt_of_le hj hm)]
  rw [List.getElem?_replicate] at h ⊢
  rw [if_pos hj] at h
  rw [if_pos (Nat.lt_of_lt_of_le hj hm)]
  exact h
theorem fitG {p : Value} {n : Nat} (hp : p.oneCell' = true) : ∀ v ∈ List.replicate n p, v.oneCell' = true := fun v hv => by rw [List.eq_of_mem_replicate hv]; exact hp
theorem step_copy_ownG {P : Program} {e : TypeId} {ops : Array Oper} {o : Oper} {a : Act} {w : World} {K : Act → World → Prop} {Q : Exit → Act → World → Prop} {E : Prop} (hgd : o.guard = none) (d s : Operand) (dT sT : TypeId)
    (ho : o.op = .call { callee := .builtin .copy, args := #[d, s], argTypes := #[dT, sT] }) (i : TypeInfo) (hu : P.underlying dT = some (.slice e)) (hi : P.info? e = some i) (hsize : i.size = 1) {lo hi2 g len cap : Nat} {xs : List Value} (h : OwnG e w lo hi2 (some ⟨g, 0, none⟩) len cap xs)
    (k dLen dCap : Nat) (ad : Addr) (sLen sCap : Nat) (hd : a.eval d = .slice (some ⟨g, k, none⟩) dLen dCap) (hs : a.eval s = .slice (some ad) sLen sCap) (ps : List Value) (hn : ps.length = Nat.min sLen dLen) (hfit : k + ps.length ≤ len) (hf : ∀ v ∈ ps, v.oneCell' = true) (hsrc : ∀ j v, ps[j]? = some v → w.cell? (ad.add j) = some v)
    (hk : ∀ w', OwnG e w' lo hi2 (some ⟨g, 0, none⟩) len cap (xs.take k ++ (ps ++ xs.drop (k + ps.length))) → Moved lo hi2 w w' → K (a.put o.dst (goInt ps.length)) w') :
    if Region.wanted o (yielded ops a.tmps) = true then Oper.wp P o a w K Q else E := by
  have hw : Region.wanted o (yielded ops a.tmps) = true := by simp [Region.wanted, hgd]
  rw [if_pos hw]
  obtain ⟨w', hr, h1, h2⟩ := run_copy_ownG (P := P) w dT sT o.type i hu hi hsize h k dLen dCap ad sLen sCap ps hn hfit hf hsrc
  unfold Oper.wp
  simp [execOp, ho, resolve, invoke, builtin, hd, hs, hr, Result.andThen]
  exact hk w' h1 h2
set_option maxHeartbeats 3200000 in
theorem mulG_any (n : Nat) (h12 : n ≤ 12) (W : World) : Calls Try.prog 71 #[.int .u64 1, .int .u64 (n : Int)] W fun e w' => e = .returned (.tuple #[.int .u64 0, .int .u64 (n : Int)]) ∧ W = w' := by
  have hn : n = 0 ∨ n = 1 ∨ n = 2 ∨ n = 3 ∨ n = 4 ∨ n = 5 ∨ n = 6 ∨ n = 7 ∨ n = 8 ∨ n = 9 ∨ n = 10 ∨ n = 11 ∨ n = 12 := by omega
  rcases hn with rfl | rfl | rfl | rfl | rfl | rfl | rfl | rfl | rfl | rfl | rfl | rfl | rfl
  all_goals
    go_enter Try.func71, Try.ntmps71
    go_wp2
    go_ret2
    exact ⟨rfl, rfl⟩
theorem info_bool : (Try.prog.info? 4).map (fun i => (i.zero, i.size, i.bytes)) = some (some (.bool false), 1, 1) := by kernel_rfl
theorem madeG_row {w : World} {lo len g : Nat} (h : w.ownsRow lo 4 1 (.slice (some ⟨g, 0, none⟩) len len) len (madeCells (Value.bool false).cells (len * 1)).toList) : OwnG 4 w lo w.heap.size (some ⟨g, 0, none⟩) len len (upG (.bool true) (.bool false) len 0) := by
  have e : (madeCells (Value.bool false).cells (len * 1)).toList = List.replicate len (.bool false) := by
    refine List.ext_getElem (by simp [madeCells]) (fun i h1 h2 => ?_)
    simp [madeCells, Value.cells, Nat.mod_one]
  rw [e] at h
  rw [upG_zero]
  exact ownG_of h (fitG rfl)
theorem copyG_first (w1 : World) (lo hi2 g b n : Nat) (HO : OwnG 4 w1 lo hi2 (some ⟨g, 0, none⟩) n n (upG (.bool true) (.bool false) n 0)) (HS : w1.cell? ⟨b, 0, none⟩ = some (.bool true)) :
    ∃ w2, (Builtin.copy_ #[76, 76] 3 #[.slice (some ⟨g, 0, none⟩) n n, .slice (some ⟨b, 0, none⟩) 1 1]).run Try.prog w1 = .ok (.int .i64 ((Nat.min 1 n : Nat) : Int)) w2 ∧ OwnG 4 w2 lo hi2 (some ⟨g, 0, none⟩) n n (upG (.bool true) (.bool false) n (Nat.min 1 n)) ∧ Moved lo hi2 w1 w2 := by
  obtain ⟨i0, hi, _, hz1, _⟩ := info_parts info_bool
  have hm1 : Nat.min 1 n ≤ 1 := Nat.min_le_left _ _
  have hmn : Nat.min 1 n ≤ n := Nat.min_le_right _ _
  obtain ⟨w2, hr, ho, hm⟩ := run_copy_ownG (P := Try.prog) w1 76 76 3 i0 Try.underlying76 hi hz1 HO 0 n n ⟨b, 0, none⟩ 1 1 (List.replicate (Nat.min 1 n) (.bool true)) (by rw [List.length_replicate]) (by rw [List.length_replicate]; omega) (fitG rfl) (fun j v hv => by
    have hj := (List.getElem?_eq_some_iff.1 hv).1
    simp only [List.length_replicate] at hj
    obtain rfl : j = 0 := by omega
    rw [List.getElem?_replicate, if_pos hj] at hv
    rw [add_plain, ← hv]
    exact HS)
  have e := upG_next (.bool true) (.bool false) (n := n) (k := 0) (m := Nat.min 1 n) (by omega)
  rw [List.length_replicate, e, Nat.zero_add] at ho
  rw [List.length_replicate] at hr
  exact ⟨w2, hr, ho, hm⟩
theorem upG_src {w : World} {lo hi2 g n k m : Nat} (h : OwnG 4 w lo hi2 (some ⟨g, 0, none⟩) n n (upG (.bool true) (.bool false) n k)) (hm : m ≤ k) (hk : k ≤ n) : ∀ j v, (List.replicate m (Value.bool true))[j]? = some v → w.cell? ((⟨g, 0, none⟩ : Addr).add j) = some v := fun j v hv => by
  have hj := (List.getElem?_eq_some_iff.1 hv).1
  simp only [List.length_replicate] at hj
  rw [add_plain, Nat.zero_add, (h.cells j (by omega)).1]
  exact upG_at _ _ hm hv
set_option maxRecDepth 20000 in
set_option maxHeartbeats 1600000 in
/-- As many as wanted, all true. -/
theorem repeatB_any (W : World) (b n : Nat) (h12 : n ≤ 12) (hb : b < W.heap.size) (hs : W.cell? ⟨b, 0, none⟩ = some (.bool true)) :
    Calls Try.prog 62 #[.slice (some ⟨b, 0, none⟩) 1 1, .int .i64 (n : Int)] W fun e w' => ∃ g, e = .returned (.slice (some ⟨g, 0, none⟩) n n) ∧ OwnG 4 w' W.heap.size w'.heap.size (some ⟨g, 0, none⟩) n n (List.replicate n (.bool true)) ∧ Below W.heap.size W w' := by
  have HS := Lib.hid hs
  clear hs
  obtain ⟨i0, hi, hz0, hz1, hz2⟩ := info_parts info_bool
  have wu : IntKind.u64.wrap (n : Int) = (n : Int) := by rw [IntKind.wrap_u64]; omega
  have wi : IntKind.i64.wrap (n : Int) = (n : Int) := IntWalk.i64_in _ (by omega)
  have n0 : ¬ (n : Int) < 0 := by omega
  go_enter Try.func62, Try.ntmps62
  go_wp2_with (first
    | (go_at_call 71; refine (mulG_any n h12 _).mono ?_; rintro e w' ⟨rfl, rfl⟩)
    | (at_make; refine wpList_make_full _ rfl _ _ 76 rfl W.heap.size 4 i0 (.bool false) 1 Try.underlying76 hi hz0 hz1 _ _ _ _ n rfl rfl rfl rfl (by rw [hz2]; omega) (by unfold maxLen; omega) (by simp) ?_; intro w1 hown1 hgrow1; have HO1 := Lib.hid (madeG_row hown1); have HB1 := Lib.hid ((Below.refl W.heap.size W).grown hgrow1 (Nat.le_refl _) (fun k e => by cases e)); obtain ⟨w2, hr2, ho2, hm2⟩ := copyG_first w1 _ _ _ b n HO1.out ((HB1.out.cell (p := ⟨b, 0, none⟩) hb).trans HS.out); have HO2 := Lib.hid ho2; have HB2 := Lib.hid (below_moved HB1.out hm2 (Nat.le_refl _) (Nat.le_refl _)); clear hown1 hgrow1 ho2 hm2))
  have hmin : (Nat.min 1 n ≤ n ∧ (1 ≤ Nat.min 1 n ∨ n = 0)) := by
    rcases Nat.eq_zero_or_pos n with h | h
    · subst h; exact ⟨by simp, .inr rfl⟩
    · rw [show Nat.min 1 n = 1 from Nat.min_eq_left h]; exact ⟨h, .inl (Nat.le_refl _)⟩
  go_loopw [8] (fun i wr => ∃ k : Nat, (1 ≤ k ∨ n = 0) ∧ k ≤ n ∧ i = .int .i64 k ∧ OwnG 4 wr W.heap.size w1.heap.size (some ⟨W.heap.size, 0, none⟩) n n (upG (.bool true) (.bool false) n k) ∧ Below W.heap.size W wr) (fun i _ => n - (intOf i).toNat)
  case atStart => exact ⟨_, hmin.2, hmin.1, rfl, HO2.out, HB2.out⟩
  case round =>
    obtain ⟨k, hk1, hk, rfl, ho, hb'⟩ := hrel
    have HO := Lib.hid ho
    have HB := Lib.hid hb'
    clear ho hb'
    by_cases hlt : k < n
    · obtain ⟨m, hm⟩ : ∃ m, m = Nat.min k (n - k) := ⟨_, rfl⟩
      have hm1 : 1 ≤ m ∧ m ≤ k ∧ k + m ≤ n := by
        rcases Nat.le_total k (n - k) with h | h
        · have : m = k := by rw [hm]; exact Nat.min_eq_left h
          omega
        · have : m = n - k := by rw [hm]; exact Nat.min_eq_right h
          omega
      have HM := Lib.hid hm
      clear hm
      have i0k : (0 : Int) ≤ (k : Int) := by omega
      have i1k : (k : Int) ≤ (n : Int) := by omega
      have i2k : (k : Int) < (n : Int) := by omega
      have wkm : IntKind.i64.wrap ((k : Int) + (m : Int)) = (k : Int) + (m : Int) := IntWalk.i64_in _ (by omega)
      go_wp2_with fail
      go_region_held3 (fun _ => True) (trivial) (first
        | (refine step_copy_ownG rfl _ _ 76 76 rfl i0 Try.underlying76 hi hz1 (by first | exact HO.out | exact HO.out.below (Below.refl _ _).drew) k (n - k) (n - k) ⟨W.heap.size, 0, none⟩ k n (by show Value.slice (if n = k then (some ⟨W.heap.size, 0, none⟩ : Option Addr) else some ⟨W.heap.size, k, none⟩) (n - k) (n - k) = _; rw [if_neg (by omega)]) rfl (List.replicate m (.bool true)) (by rw [List.length_replicate]; exact HM.out) (by rw [List.length_replicate]; omega) (fitG rfl) (by first | exact upG_src HO.out hm1.2.1 hk | exact upG_src (HO.out.below (Below.refl _ _).drew) hm1.2.1 hk) ?_; rw [List.length_replicate]; intro w3 ho3 hm3; rw [upG_next _ _ hm1.2.2] at ho3; have HO3 := Lib.hid ho3; have HB3 := Lib.hid (below_moved (by first | exact HB.out | exact HB.out.drew) hm3 (Nat.le_refl _) (Nat.le_refl _)); clear ho3 hm3))
      all_goals go_wp2
      all_goals
        go_roundw
        case rel => exact ⟨k + m, by omega, by omega, by go_num, HO3.out, HB3.out⟩
        case measure => simp [intOf]; omega
    · obtain rfl : k = n := by omega
      have HE := Lib.hid (upG_all (.bool true) (.bool false) k)
      go_wp2
      go_ret
      exact ⟨_, rfl, by have h := HO.out; rw [HE.out] at h; exact h.wide (Nat.le_refl _) h.2.2.1 (Nat.le_refl _), HB.out⟩
end Go.Proofs.Ythcinjlghhfhmaa
