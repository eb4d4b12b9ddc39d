/- Slices of links: what is seen of one, and what a call owns. -/
import Derived.Test.YtbjjgcfmdlinaaaSlA
import Derived.Deep.RegionHeld3
import Derived.Laws.CopyRow
namespace Go.Proofs.Ytbjjgcfmdlinaaa
open Go.RowKit
def LinkV (x y : Int) (w : World) (e : Ending) (w' : World) : Prop := e = .returned (.agg #[.int .i64 x, .int .i64 y]) ∧ Below w.heap.size w w'
theorem toLink_any (x y : Int) (w : World) : Calls Try.prog 61 #[.agg #[.int .i64 x, .int .i64 y]] w (LinkV x y w) := by
  go_enter Try.func61, Try.ntmps61
  go_wp2
  refine bodyPost_ret (v := .agg #[.int .i64 x, .int .i64 y]) (by simp [results, Try.results61, go_sem]) rfl ⟨rfl, ?_⟩
  repeat (first | exact Below.refl _ _ | refine Below.setCell ?_ (by simp <;> omega) _ | refine Below.alloc ?_ (by simp <;> omega) _)
theorem eqLink_yes (x y : Int) (w : World) : Calls Try.prog 57 #[.agg #[.int .i64 x, .int .i64 y], .agg #[.int .i64 x, .int .i64 y]] w fun e w' => e = .returned (.bool true) ∧ Below w.heap.size w w' := by
  go_enter Try.func57, Try.ntmps57
  go_wp2
  go_ret
  exact ⟨rfl, ((Below.refl _ _).alloc (Nat.le_refl _) _).alloc (by simp) _⟩
/-- The numbers of links, one behind the other. -/
def flatL : List (Int × Int) → List Int
  | [] => []
  | p :: r => p.1 :: p.2 :: flatL r
theorem flatL_len : ∀ xs : List (Int × Int), (flatL xs).length = xs.length * 2
  | [] => rfl
  | p :: r => by simp only [flatL, List.length_cons, flatL_len r]; omega
theorem flatL_append : ∀ xs ys : List (Int × Int), flatL (xs ++ ys) = flatL xs ++ flatL ys
  | [], _ => rfl
  | p :: r, ys => by simp only [List.cons_append, flatL, flatL_append r ys]
theorem flatL_num : ∀ (xs : List (Int × Int)) (k : Nat), k < xs.length → (flatL xs)[k * 2]? = some (xs.getD k (0, 0)).1
  | [], k, h => absurd h (Nat.not_lt_zero _)
  | p :: r, 0, _ => rfl
  | p :: r, k + 1, h => by
    have ih := flatL_num r k (by simpa using h)
    rw [show (k + 1) * 2 = k * 2 + 1 + 1 by omega, flatL, List.getElem?_cons_succ, List.getElem?_cons_succ, ih]
    simp [List.getD]
theorem flatL_den : ∀ (xs : List (Int × Int)) (k : Nat), k < xs.length → (flatL xs)[k * 2 + 1]? = some (xs.getD k (0, 0)).2
  | [], k, h => absurd h (Nat.not_lt_zero _)
  | p :: r, 0, _ => rfl
  | p :: r, k + 1, h => by
    have ih := flatL_den r k (by simpa using h)
    rw [show (k + 1) * 2 + 1 = k * 2 + 1 + 1 + 1 by omega, flatL, List.getElem?_cons_succ, List.getElem?_cons_succ, ih]
    simp [List.getD]
theorem flatL_set : ∀ (xs : List (Int × Int)) (k : Nat) (p : Int × Int), flatL (xs.set k p) = ((flatL xs).set (k * 2) p.1).set (k * 2 + 1) p.2
  | [], k, p => by simp [flatL]
  | q :: r, 0, p => rfl
  | q :: r, k + 1, p => by
    rw [List.set_cons_succ, flatL, flatL_set r k p, flatL, show (k + 1) * 2 = k * 2 + 1 + 1 by omega]
    rfl
theorem flatL_repl (n : Nat) (p : Int × Int) (h : p.1 = p.2) : flatL (List.replicate n p) = List.replicate (n * 2) p.1 := by
  induction n with
  | zero => rfl
  | succ n ih => rw [List.replicate_succ, flatL, ih, show (n + 1) * 2 = n * 2 + 1 + 1 by omega, List.replicate_succ, List.replicate_succ, ← h]
/-- Both numbers fit. -/
def FitL (xs : List (Int × Int)) : Prop := ∀ p ∈ xs, (Lit.int .i64 p.1).wf = true ∧ (Lit.int .i64 p.2).wf = true
/-- The slice's elements are the links xs. -/
def SeesL (w : World) (a : Option Addr) (len : Nat) (xs : List (Int × Int)) : Prop :=
  xs.length = len ∧ FitL xs ∧
    (len = 0 ∨ ∃ b off, a = some ⟨b, off, none⟩ ∧ b < w.heap.size ∧ ∀ j, j < len → w.cell? ⟨b, off + j * 2, none⟩ = some (.int .i64 (xs.getD j (0, 0)).1) ∧ w.cell? ⟨b, off + j * 2 + 1, none⟩ = some (.int .i64 (xs.getD j (0, 0)).2))
theorem SeesL.below {w w' : World} {a : Option Addr} {len : Nat} {xs : List (Int × Int)} (h : SeesL w a len xs) (hb : Below w.heap.size w w') : SeesL w' a len xs := by
  obtain ⟨h1, h2, h3⟩ := h
  refine ⟨h1, h2, ?_⟩
  rcases h3 with h3 | ⟨b, off, ha, hlt, hc⟩
  · exact .inl h3
  · exact .inr ⟨b, off, ha, Nat.lt_of_lt_of_le hlt hb.size, fun j hj => ⟨(hb.cell (p := ⟨b, off + j * 2, none⟩) hlt).trans (hc j hj).1, (hb.cell (p := ⟨b, off + j * 2 + 1, none⟩) hlt).trans (hc j hj).2⟩⟩
theorem SeesL.moved {w w' : World} {a : Option Addr} {len lo hi : Nat} {xs : List (Int × Int)} (h : SeesL w a len xs) (hm : Moved lo hi w w') (ho : ∀ x, a = some x → ¬ (lo ≤ x.block ∧ x.block < hi)) : SeesL w' a len xs := by
  obtain ⟨h1, h2, h3⟩ := h
  refine ⟨h1, h2, ?_⟩
  rcases h3 with h3 | ⟨b, off, ha, hlt, hc⟩
  · exact .inl h3
  · refine .inr ⟨b, off, ha, Nat.lt_of_lt_of_le hlt hm.size, fun j hj => ?_⟩
    have e : ∀ x, w'.cell? ⟨b, x, none⟩ = w.cell? ⟨b, x, none⟩ := fun x => World.cell?_of_block (w := w) (a := ⟨b, x, none⟩) (hm.block b hlt (ho _ ha))
    rw [e, e]
    exact hc j hj
/-- A row of links of the call's own. -/
def OwnL (w : World) (lo hi : Nat) (a : Option Addr) (len cap : Nat) (xs : List (Int × Int)) : Prop :=
  xs.length = len ∧ FitL xs ∧ hi ≤ w.heap.size ∧ w.ownsRow lo 38 2 (.slice a len cap) len ((flatL xs).map (.int .i64)) ∧ (∀ x, a = some x → lo ≤ x.block ∧ x.block < hi)
theorem OwnL.spot {w : World} {lo hi : Nat} {a : Option Addr} {len cap : Nat} {xs : List (Int × Int)} (h : OwnL w lo hi a len cap xs) :
    (a = none ∧ len = 0 ∧ cap = 0 ∧ xs = []) ∨ ∃ g, a = some ⟨g, 0, none⟩ ∧ lo ≤ g ∧ g < hi ∧ len ≤ cap ∧ cap ≤ maxLen ∧ (∀ j, j < len → w.cell? ⟨g, j * 2, none⟩ = some (.int .i64 (xs.getD j (0, 0)).1) ∧ w.cell? ⟨g, j * 2 + 1, none⟩ = some (.int .i64 (xs.getD j (0, 0)).2)) ∧ ∀ j, w.frozen? ⟨g, j, none⟩ = false := by
  obtain ⟨h1, h2, h3, h4, h5⟩ := h
  have h4' := h4
  rcases h4.2 with ⟨hv, hn⟩ | ⟨g, c, cur, hv, hlo, hg, hnc, hcm, hcs, htk⟩
  · simp only [Value.slice.injEq] at hv
    obtain ⟨rfl, rfl, rfl⟩ := hv
    exact .inl ⟨rfl, rfl, rfl, List.eq_nil_of_length_eq_zero h1⟩
  · simp only [Value.slice.injEq, true_and] at hv
    obtain ⟨rfl, rfl⟩ := hv
    refine .inr ⟨g, rfl, hlo, (h5 _ rfl).2, hnc, hcm, fun j hj => ⟨?_, ?_⟩, fun j => h4'.frozenAt j⟩
    · rw [h4'.cellAt (j * 2) (by omega), List.getElem?_map, flatL_num xs j (by omega)]
      rfl
    · rw [h4'.cellAt (j * 2 + 1) (by omega), List.getElem?_map, flatL_den xs j (by omega)]
      rfl
theorem OwnL.sees {w : World} {lo hi : Nat} {a : Option Addr} {len cap : Nat} {xs : List (Int × Int)} (h : OwnL w lo hi a len cap xs) : SeesL w a len xs := by
  refine ⟨h.1, h.2.1, ?_⟩
  rcases h.spot with ⟨_, h0, _⟩ | ⟨g, ha, _, hg, _, _, hc, _⟩
  · exact .inl h0
  · exact .inr ⟨g, 0, ha, Nat.lt_of_lt_of_le hg h.2.2.1, fun j hj => by rw [Nat.zero_add]; exact hc j hj⟩
theorem OwnL.spotAt {w : World} {lo hi g len cap : Nat} {xs : List (Int × Int)} (h : OwnL w lo hi (some ⟨g, 0, none⟩) len cap xs) (k : Nat) (hk : k < len) :
    w.cell? ⟨g, k * 2, none⟩ = some (.int .i64 (xs.getD k (0, 0)).1) ∧ w.cell? ⟨g, k * 2 + 1, none⟩ = some (.int .i64 (xs.getD k (0, 0)).2) ∧ ∀ j, w.frozen? ⟨g, j, none⟩ = false := by
  rcases h.spot with ⟨h0, _⟩ | ⟨g', hg, _, _, _, _, hc, hf⟩
  · cases h0
  cases hg
  exact ⟨(hc k hk).1, (hc k hk).2, hf⟩
theorem OwnL.room {w : World} {lo hi : Nat} {a : Option Addr} {len cap : Nat} {xs : List (Int × Int)} (h : OwnL w lo hi a len cap xs) : len ≤ cap ∧ cap ≤ maxLen := by
  rcases h.spot with ⟨_, h0, h1, _⟩ | ⟨g, _, _, _, h1, h2, _⟩
  · rw [h0, h1]; exact ⟨Nat.le_refl _, Nat.zero_le _⟩
  · exact ⟨h1, h2⟩
theorem OwnL.moved {w w' : World} {lo hi lo2 hi2 : Nat} {a : Option Addr} {len cap : Nat} {xs : List (Int × Int)} (h : OwnL w lo hi a len cap xs) (hm : Moved lo2 hi2 w w') (ho : hi ≤ lo2 ∨ hi2 ≤ lo) : OwnL w' lo hi a len cap xs := by
  obtain ⟨h1, h2, h3, h4, h5⟩ := h
  refine ⟨h1, h2, Nat.le_trans h3 hm.size, ⟨h4.1, ?_⟩, h5⟩
  rcases h4.2 with h | ⟨g, c, cur, hv, hlo, hg, rest⟩
  · exact .inl h
  · refine .inr ⟨g, c, cur, hv, hlo, ?_, rest⟩
    have hgs := (Array.getElem?_eq_some_iff.1 hg).1
    simp only [Value.slice.injEq, true_and] at hv
    have hb := h5 _ hv.1
    simp only at hb
    rw [hm.block g hgs (by omega)]
    exact hg
theorem OwnL.below {w w' : World} {lo hi : Nat} {a : Option Addr} {len cap : Nat} {xs : List (Int × Int)} (h : OwnL w lo hi a len cap xs) (hb : Below w.heap.size w w') : OwnL w' lo hi a len cap xs :=
  h.moved (Moved.of_below (lo := hi) (hi := hi) hb) (.inl (Nat.le_refl _))
theorem OwnL.wide {w : World} {lo hi lo2 hi2 : Nat} {a : Option Addr} {len cap : Nat} {xs : List (Int × Int)} (h : OwnL w lo hi a len cap xs) (h1 : lo2 ≤ lo) (h2 : hi ≤ hi2) (h3 : hi2 ≤ w.heap.size) : OwnL w lo2 hi2 a len cap xs := by
  obtain ⟨g1, g2, g3, g4, g5⟩ := h
  refine ⟨g1, g2, h3, ⟨g4.1, ?_⟩, fun x hx => ⟨Nat.le_trans h1 (g5 x hx).1, Nat.lt_of_lt_of_le (g5 x hx).2 h2⟩⟩
  rcases g4.2 with h | ⟨g, c, cur, hv, hlo, rest⟩
  · exact .inl h
  · exact .inr ⟨g, c, cur, hv, Nat.le_trans h1 hlo, rest⟩
theorem ownL_of {w : World} {lo n : Nat} {a : Option Addr} {len cap : Nat} {xs : List (Int × Int)} (h : w.ownsRow lo 38 2 (.slice a len cap) n ((flatL xs).map (.int .i64))) (hw : FitL xs) : OwnL w lo w.heap.size a len cap xs := by
  have hn : xs.length = n := by have := h.1; rw [List.length_map, flatL_len] at this; omega
  have hl : len = n := by
    rcases h.2 with ⟨hv, h0⟩ | ⟨g, c, cur, hv, _⟩
    · simp only [Value.slice.injEq] at hv; omega
    · simp only [Value.slice.injEq] at hv; exact hv.2.1
  subst hl
  refine ⟨hn, hw, Nat.le_refl _, h, fun x hx => ?_⟩
  subst hx
  exact h.lt x.block rfl
theorem FitL.set {xs : List (Int × Int)} (h : FitL xs) {k : Nat} {p : Int × Int} (hp : (Lit.int .i64 p.1).wf = true ∧ (Lit.int .i64 p.2).wf = true) : FitL (xs.set k p) := fun q hq => by
  rcases List.mem_or_eq_of_mem_set hq with hm | rfl
  · exact h q hm
  · exact hp
/-- A link is put in its place: two cells. -/
theorem OwnL.stored {w : World} {lo hi g len cap : Nat} {xs : List (Int × Int)} (h : OwnL w lo hi (some ⟨g, 0, none⟩) len cap xs) (j : Nat) (p : Int × Int) (hp : (Lit.int .i64 p.1).wf = true ∧ (Lit.int .i64 p.2).wf = true) :
    OwnL ((w.setCell ⟨g, j * 2, none⟩ (.int .i64 p.1)).setCell ⟨g, j * 2 + 1, none⟩ (.int .i64 p.2)) lo hi (some ⟨g, 0, none⟩) len cap (xs.set j p) ∧ Moved lo hi w ((w.setCell ⟨g, j * 2, none⟩ (.int .i64 p.1)).setCell ⟨g, j * 2 + 1, none⟩ (.int .i64 p.2)) := by
  obtain ⟨h1, h2, h3, h4, h5⟩ := h
  obtain ⟨s1, s2⟩ := h4.stored (j * 2) (.int .i64 p.1)
  obtain ⟨t1, t2⟩ := s1.stored (j * 2 + 1) (.int .i64 p.2)
  have hb := h5 _ rfl
  simp only at hb
  refine ⟨⟨by simpa using h1, h2.set hp, by simpa [World.setCell] using h3, by rw [flatL_set, List.map_set, List.map_set]; exact t1, h5⟩, (Moved.of_grown s2 hb.1 hb.2).trans (Moved.of_grown t2 hb.1 hb.2)⟩
/-- What a call leaves that makes a slice of links. -/
def MadeL (xs : List (Int × Int)) (w : World) (E : Ending) (w' : World) : Prop :=
  ∃ a len cap, E = .returned (.slice a len cap) ∧ OwnL w' w.heap.size w'.heap.size a len cap xs ∧ Below w.heap.size w w'
def overL (ys zs : List (Int × Int)) (k : Nat) : List (Int × Int) := ys.take k ++ zs.drop k
theorem overL_zero (ys zs : List (Int × Int)) : overL ys zs 0 = zs := by simp [overL]
theorem overL_all (ys zs : List (Int × Int)) (h : ys.length = zs.length) : overL ys zs ys.length = ys := by
  unfold overL
  rw [List.take_length, List.drop_eq_nil_of_le (by omega), List.append_nil]
theorem overL_set (ys zs : List (Int × Int)) (k : Nat) (h : ys.length = zs.length) (hk : k < ys.length) : (overL ys zs k).set k (ys.getD k (0, 0)) = overL ys zs (k + 1) := by
  apply List.ext_getElem
  · simp [overL]; omega
  · intro i h1 h2
    simp only [overL, List.length_set, List.length_append, List.length_take, List.length_drop] at h1 h2
    rw [List.getElem_set]
    by_cases hi : k = i
    · subst hi
      have hl : k < (List.take (k + 1) ys).length := by simp; omega
      simp only [if_true, overL]
      rw [List.getElem_append_left hl, List.getElem_take]
      simp [List.getD, hk]
    · simp only [hi, if_false, overL, List.getElem_append, List.length_take, List.getElem_take, List.getElem_drop]
      split
      · rw [dif_pos (by omega)]
      · rw [dif_neg (by omega)]
        congr 1
        omega
theorem getL_mem {l : List (Int × Int)} {j : Nat} (h : j < l.length) : l.getD j (0, 0) ∈ l := by simp [List.getD, h]
theorem info_link : (Try.prog.info? 38).map (fun i => (i.zero, i.size, i.bytes)) = some (some (.agg #[.int .i64 0, .int .i64 0]), 2, 16) := by kernel_rfl
theorem madeL_row (w : World) (lo len g : Nat) (h : w.ownsRow lo 38 2 (.slice (some ⟨g, 0, none⟩) len len) len (madeCells (Value.agg #[.int .i64 0, .int .i64 0]).cells (len * 2)).toList) : OwnL w lo w.heap.size (some ⟨g, 0, none⟩) len len (List.replicate len (0, 0)) := by
  refine ownL_of (n := len) ?_ (fun p hp => by rw [List.eq_of_mem_replicate hp]; exact ⟨by decide, by decide⟩)
  have e : (flatL (List.replicate len (0, 0))).map (Value.int .i64) = (madeCells (Value.agg #[.int .i64 0, .int .i64 0]).cells (len * 2)).toList := by
    rw [flatL_repl _ _ rfl, List.map_replicate]
    apply List.ext_getElem?
    intro j
    have hc : (Value.agg #[.int .i64 0, .int .i64 0]).cells = #[.int .i64 0, .int .i64 0] := rfl
    rw [hc]
    by_cases hj : j < len * 2
    · have h2 : j % 2 = 0 ∨ j % 2 = 1 := by omega
      rcases h2 with h2 | h2 <;> simp [madeCells, hj, h2]
    · simp [madeCells, hj]
  rw [e]
  exact h
set_option maxRecDepth 20000 in
set_option maxHeartbeats 800000 in
theorem toL_any (W : World) (a : Option Addr) (len cap : Nat) (xs : List (Int × Int)) (hl : len ≤ 1073741824) (hs : SeesL W a len xs) : Calls Try.prog 34 #[.slice a len cap] W (MadeL xs W) := by
  have HS := Lib.hid hs
  have HL := Lib.hid hs.1
  clear hs
  obtain ⟨i0, hi, hz0, hz1, hz2⟩ := info_parts info_link
  go_enter Try.func34, Try.ntmps34
  go_wp2_with (at_make; refine wpList_make_full _ rfl _ _ 24 rfl W.heap.size 38 i0 (.agg #[.int .i64 0, .int .i64 0]) 2 Try.underlying24 hi hz0 hz1 _ _ _ _ len rfl rfl rfl rfl (by rw [hz2]; omega) (by unfold maxLen; omega) (by simp) ?_; intro w1 hown1 hgrow1; have HO1 := Lib.hid (madeL_row w1 W.heap.size len W.heap.size hown1); have HB1 := Lib.hid ((Below.refl W.heap.size W).grown hgrow1 (Nat.le_refl _) (fun k e => by cases e)); clear hown1 hgrow1)
  go_loopw [4] (fun i wr => ∃ k : Nat, k ≤ len ∧ i = .int .i64 k ∧ OwnL wr W.heap.size w1.heap.size (some ⟨W.heap.size, 0, none⟩) len len (overL xs (List.replicate len (0, 0)) k) ∧ Below W.heap.size W wr) (fun i _ => len - (intOf i).toNat)
  case atStart => exact ⟨0, Nat.zero_le _, rfl, by rw [overL_zero]; exact HO1.out, HB1.out⟩
  case round =>
    obtain ⟨k, hk, rfl, ho, hb⟩ := hrel
    have HO := Lib.hid ho
    have HB := Lib.hid hb
    by_cases hlt : k < len
    · rcases HS.out.2.2 with h0 | ⟨b, off, rfl, hbB, hcell⟩
      · omega
      · have hc0 := (hb.cell (p := ⟨b, off + k * 2, none⟩) hbB).trans (hcell k hlt).1
        have hc1 := (hb.cell (p := ⟨b, off + k * 2 + 1, none⟩) hbB).trans (hcell k hlt).2
        have hfit := HS.out.2.1 _ (getL_mem (l := xs) (j := k) (by rw [HL.out]; exact hlt))
        obtain ⟨p, hp⟩ : ∃ p, p = xs.getD k (0, 0) := ⟨_, rfl⟩
        rw [← hp] at hc0 hc1 hfit
        obtain ⟨x, y⟩ := p
        have HP := Lib.hid hp
        have HF := Lib.hid hfit
        clear hcell ho hb hp hfit
        go_wp2_with (go_at_call 61; refine (toLink_any x y _).mono ?_; rintro e w2 ⟨rfl, hb2⟩; have hO2 := HO.out.below hb2; have HO2 := Lib.hid hO2; have HB2 := Lib.hid (below_up HB.out hb2 (Nat.le_refl _)); obtain ⟨hcd0, hcd1, hfd⟩ := hO2.spotAt k hlt; clear hb2 hO2)
        go_roundw
        case rel =>
          have hst := HO2.out.stored k (x, y) HF.out
          have hpv := HP.out
          rw [hpv, overL_set _ _ _ (by rw [HL.out]; simp) (by rw [HL.out]; exact hlt), ← hpv] at hst
          exact ⟨k + 1, by omega, by go_num, hst.1, below_moved HB2.out hst.2 (Nat.le_refl _) (Nat.le_refl _)⟩
        case measure => simp [intOf]; omega
    · clear ho hb
      obtain rfl : k = len := by omega
      go_wp2
      go_ret
      have h := HO.out
      have e : overL xs (List.replicate k (0, 0)) k = xs := by
        have := overL_all xs (List.replicate k (0, 0)) (by rw [HL.out]; simp)
        rwa [HL.out] at this
      rw [e] at h
      exact ⟨_, _, _, rfl, h.wide (Nat.le_refl _) h.2.2.1 (Nat.le_refl _), HB.out⟩
end Go.Proofs.Ytbjjgcfmdlinaaa
/- What the laws do to slices of links: compare, mark, look for the marks, measure. -/
namespace Go.Proofs.Ytbjjgcfmdlinaaa
open Go.RowKit
/-- The marks from m on, two a link. -/
def marksL (m : Int) (n : Nat) : List (Int × Int) := (List.range n).map (fun (j : Nat) => (m + (j : Int) * 2, m + (j : Int) * 2 + 1))
theorem marksL_len (m : Int) (n : Nat) : (marksL m n).length = n := by simp [marksL]
theorem marksL_at (m : Int) (n j : Nat) (h : j < n) : (marksL m n).getD j (0, 0) = (m + (j : Int) * 2, m + (j : Int) * 2 + 1) := by simp [marksL, List.getD, h]
set_option maxRecDepth 20000 in
set_option maxHeartbeats 800000 in
theorem eqL_yes (W : World) (a b : Option Addr) (len capa capb : Nat) (xs : List (Int × Int)) (hl : len ≤ 1073741824) (ha : SeesL W a len xs) (hb : SeesL W b len xs) :
    Calls Try.prog 23 #[.slice a len capa, .slice b len capb] W fun e w' => e = .returned (.bool true) ∧ Below W.heap.size W w' := by
  have HA := Lib.hid ha
  have HZ := Lib.hid hb
  clear ha hb
  go_enter Try.func23, Try.ntmps23
  go_wp2
  go_loopw [5] (fun i wr => ∃ k : Nat, k ≤ len ∧ i = .int .i64 k ∧ Below W.heap.size W wr) (fun i _ => len - (intOf i).toNat)
  case atStart => exact ⟨0, Nat.zero_le _, rfl, Below.refl _ _⟩
  case round =>
    obtain ⟨k, hk, rfl, hbw⟩ := hrel
    have HB := Lib.hid hbw
    by_cases hlt : k < len
    · rcases HA.out.2.2 with h0 | ⟨b1, o1, rfl, hb1, hc1⟩
      · omega
      · rcases HZ.out.2.2 with h0 | ⟨b2, o2, rfl, hb2, hc2⟩
        · omega
        · obtain ⟨p, hp⟩ : ∃ p, p = xs.getD k (0, 0) := ⟨_, rfl⟩
          have hg1 := hc1 k hlt
          have hg2 := hc2 k hlt
          rw [← hp] at hg1 hg2
          obtain ⟨x, y⟩ := p
          have G1 := Lib.hid hg1
          have G2 := Lib.hid hg2
          have hx0 := (hbw.cell (p := ⟨b1, o1 + k * 2, none⟩) hb1).trans G1.out.1
          have hx1 := (hbw.cell (p := ⟨b1, o1 + k * 2 + 1, none⟩) hb1).trans G1.out.2
          have hy0 := (hbw.cell (p := ⟨b2, o2 + k * 2, none⟩) hb2).trans G2.out.1
          have hy1 := (hbw.cell (p := ⟨b2, o2 + k * 2 + 1, none⟩) hb2).trans G2.out.2
          clear hc1 hc2 hbw hp hg1 hg2
          have i0 : (0 : Int) ≤ (k : Int) := by omega
          have i1 : (k : Int) < (len : Int) := by omega
          go_wp2_with fail
          go_region_held3 (fun w' => w'.cell? ⟨b1, o1 + k * 2, none⟩ = some (.int .i64 x) ∧ w'.cell? ⟨b1, o1 + k * 2 + 1, none⟩ = some (.int .i64 y) ∧ w'.cell? ⟨b2, o2 + k * 2, none⟩ = some (.int .i64 x) ∧ w'.cell? ⟨b2, o2 + k * 2 + 1, none⟩ = some (.int .i64 y)) (go_keep) (first
            | (go_at_call 57; refine (eqLink_yes x y _).mono ?_; rintro e w2 ⟨rfl, hb3⟩; have HB2 := Lib.hid (below_up HB.out.drew hb3 (Nat.le_refl _)); have hx0 := (HB2.out.cell (p := ⟨b1, o1 + k * 2, none⟩) hb1).trans G1.out.1; have hx1 := (HB2.out.cell (p := ⟨b1, o1 + k * 2 + 1, none⟩) hb1).trans G1.out.2; have hy0 := (HB2.out.cell (p := ⟨b2, o2 + k * 2, none⟩) hb2).trans G2.out.1; have hy1 := (HB2.out.cell (p := ⟨b2, o2 + k * 2 + 1, none⟩) hb2).trans G2.out.2; clear hb3))
          all_goals go_wp2
          go_roundw
          case rel => exact ⟨k + 1, by omega, by go_num, HB2.out⟩
          case measure => simp [intOf]; omega
    · clear hbw
      go_wp2
      go_ret
      exact ⟨rfl, HB.out⟩
set_option maxRecDepth 20000 in
set_option maxHeartbeats 800000 in
theorem markL_any (W : World) (lo hi : Nat) (a : Option Addr) (len cap : Nat) (xs : List (Int × Int)) (m : Int) (hl : len ≤ 1073741824) (hm0 : 0 ≤ m) (hm1 : m ≤ 4611686018427387904) (ho : OwnL W lo hi a len cap xs) :
    Calls Try.prog 25 #[.slice a len cap, .int .i64 m] W fun e w' => e = .returned (.int .i64 (m + len * 2)) ∧ OwnL w' lo hi a len cap (marksL m len) ∧ Moved lo hi W w' := by
  have HO0 := Lib.hid ho
  have HL := Lib.hid ho.1
  clear ho
  go_enter Try.func25, Try.ntmps25
  go_wp2
  go_loopw [1, 5] (fun q i wr => ∃ k : Nat, k ≤ len ∧ i = .int .i64 k ∧ q = .int .i64 (m + k * 2) ∧ OwnL wr lo hi a len cap (overL (marksL m len) xs k) ∧ Moved lo hi W wr) (fun _ i _ => len - (intOf i).toNat)
  case atStart => exact ⟨0, Nat.zero_le _, rfl, by simp, by rw [overL_zero]; exact HO0.out, Moved.refl _ _ _⟩
  case round =>
    obtain ⟨k, hk, rfl, rfl, ho, hb⟩ := hrel
    have HO := Lib.hid ho
    have HB := Lib.hid hb
    by_cases hlt : k < len
    · rcases ho.spot with ⟨_, hx, _⟩ | ⟨g, rfl, _⟩
      · omega
      · obtain ⟨hcd0, hcd1, hfd⟩ := ho.spotAt k hlt
        clear ho hb
        go_wp2
        go_roundw
        case rel =>
          have hst := HO.out.stored k (m + k * 2, m + k * 2 + 1) ⟨WalkArith.wf_i64 (by omega), WalkArith.wf_i64 (by omega)⟩
          have e := overL_set (marksL m len) xs k (by rw [HL.out, marksL_len]) (by rw [marksL_len]; exact hlt)
          rw [marksL_at _ _ _ hlt] at e
          rw [e] at hst
          exact ⟨k + 1, by omega, by go_num, by go_num, hst.1, HB.out.trans hst.2⟩
        case measure => simp [intOf]; omega
    · clear ho hb
      obtain rfl : k = len := by omega
      go_wp2
      go_ret
      have h := HO.out
      have e : overL (marksL m k) xs k = marksL m k := by
        have := overL_all (marksL m k) xs (by rw [HL.out, marksL_len])
        rwa [marksL_len] at this
      rw [e] at h
      exact ⟨rfl, h, HB.out⟩
set_option maxRecDepth 20000 in
set_option maxHeartbeats 800000 in
theorem heldL_any (W : World) (a : Option Addr) (len cap : Nat) (m : Int) (hl : len ≤ 1073741824) (hm0 : 0 ≤ m) (hm1 : m ≤ 4611686018427387904) (ha : SeesL W a len (marksL m len)) :
    Calls Try.prog 26 #[.slice a len cap, .int .i64 m] W fun e w' => e = .returned (.int .i64 (m + len * 2)) ∧ Below W.heap.size W w' := by
  have HA := Lib.hid ha
  clear ha
  go_enter Try.func26, Try.ntmps26
  go_wp2
  go_loopw [1, 5] (fun q i wr => ∃ k : Nat, k ≤ len ∧ i = .int .i64 k ∧ q = .int .i64 (m + k * 2) ∧ Below W.heap.size W wr) (fun _ i _ => len - (intOf i).toNat)
  case atStart => exact ⟨0, Nat.zero_le _, rfl, by simp, Below.refl _ _⟩
  case round =>
    obtain ⟨k, hk, rfl, rfl, hbw⟩ := hrel
    have HB := Lib.hid hbw
    by_cases hlt : k < len
    · rcases HA.out.2.2 with h0 | ⟨b1, o1, rfl, hb1, hc1⟩
      · omega
      · have hx0 := (hbw.cell (p := ⟨b1, o1 + k * 2, none⟩) hb1).trans (hc1 k hlt).1
        have hx1 := (hbw.cell (p := ⟨b1, o1 + k * 2 + 1, none⟩) hb1).trans (hc1 k hlt).2
        rw [marksL_at _ _ _ hlt] at hx0 hx1
        clear hc1 hbw
        go_wp2
        go_roundw
        case rel => exact ⟨k + 1, by omega, by go_num, by go_num, HB.out⟩
        case measure => simp [intOf]; omega
    · clear hbw
      obtain rfl : k = len := by omega
      go_wp2
      go_ret
      exact ⟨rfl, HB.out⟩
theorem szL_any (W : World) (a : Option Addr) (len cap : Nat) (left v : Int) (hl : len ≤ maxLen) (h0 : 0 ≤ left) (h1 : left ≤ 1048576) (hv : v = if left < (len : Int) then -1 else left - (len : Int)) :
    Calls Try.prog 32 #[.slice a len cap, .int .i64 left] W fun e w' => e = .returned (.int .i64 v) ∧ W = w' := by
  unfold maxLen at hl
  by_cases h : left < (len : Int)
  · rw [if_pos h] at hv
    subst hv
    go_enter Try.func32, Try.ntmps32
    go_wp2
    go_ret
    exact ⟨rfl, rfl⟩
  · rw [if_neg h] at hv
    obtain ⟨y, hy⟩ : ∃ y, y = v := ⟨_, rfl⟩
    have HV := Lib.hid (hy.trans hv)
    clear hv
    subst hy
    have h2 : ¬ left - (len : Int) < 0 := by omega
    go_enter Try.func32, Try.ntmps32
    go_wp2
    go_ret
    exact ⟨congrArg (fun t => Ending.returned (Value.int .i64 t)) HV.out.symm, rfl⟩
end Go.Proofs.Ytbjjgcfmdlinaaa
/- Slices of links: a literal, and what goes behind an own row. -/
namespace Go.Proofs.Ytbjjgcfmdlinaaa
open Go.RowKit
theorem ownL_nil (w : World) : OwnL (w.alloc (.cells #[] 38)) w.heap.size (w.heap.size + 1) (some ⟨w.heap.size, 0, none⟩) 0 0 [] := by
  refine ⟨rfl, (fun _ h => by cases h), by simp, ⟨rfl, .inr ⟨w.heap.size, 0, #[], rfl, Nat.le_refl _, heap_alloc_new w _, Nat.le_refl _, Nat.zero_le _, rfl, rfl⟩⟩, fun x hx => ?_⟩
  obtain rfl := Option.some.inj hx
  exact ⟨Nat.le_refl _, Nat.lt_succ_self _⟩
theorem ownL_empty (w : World) (lo : Nat) (h : lo ≤ w.heap.size) : OwnL (w.alloc (.cells #[] 38)) lo (w.alloc (.cells #[] 38)).heap.size (some ⟨w.heap.size, 0, none⟩) 0 0 [] :=
  (ownL_nil w).wide h (by simp) (Nat.le_refl _)
theorem seesL_one {x y : Int} (hx : (Lit.int .i64 x).wf = true) (hy : (Lit.int .i64 y).wf = true) (w : World) (t : TypeId) : SeesL (w.alloc (.cells #[.int .i64 x, .int .i64 y] t)) (some ⟨w.heap.size, 0, none⟩) 1 [(x, y)] := by
  refine ⟨rfl, fun p hp => ?_, .inr ⟨_, _, rfl, by simp, fun j hj => ?_⟩⟩
  · rw [List.mem_singleton.1 hp]
    exact ⟨hx, hy⟩
  · obtain rfl : j = 0 := by omega
    simp
theorem SeesL.alloc {w : World} {a : Option Addr} {len : Nat} {xs : List (Int × Int)} (h : SeesL w a len xs) (o : Obj) : SeesL (w.alloc o) a len xs :=
  h.below ((Below.refl _ _).alloc (Nat.le_refl _) _)
theorem OwnL.alloc {w : World} {lo hi : Nat} {a : Option Addr} {len cap : Nat} {xs : List (Int × Int)} (h : OwnL w lo hi a len cap xs) (o : Obj) : OwnL (w.alloc o) lo hi a len cap xs :=
  h.below ((Below.refl _ _).alloc (Nat.le_refl _) _)
theorem FitL.append {xs ys : List (Int × Int)} (h : FitL xs) (g : FitL ys) : FitL (xs ++ ys) := fun p hp => (List.mem_append.1 hp).elim (h p) (g p)
theorem own_shapeL {w : World} {lo n : Nat} {v : Value} {xs : List Value} (h : w.ownsRow lo 38 2 v n xs) : ∃ a cap, v = .slice a n cap := by
  rcases h.2 with ⟨rfl, rfl⟩ | ⟨g, c, cur, rfl, _⟩
  · exact ⟨_, _, rfl⟩
  · exact ⟨_, _, rfl⟩
/-- Fractions that are seen go behind an own row's. -/
theorem wp_append_seesL {P : Program} {w : World} {ops : Array Oper} {rest : List Oper} {o : Oper} {act : Act} {Q : Exit → Act → World → Prop} (hgd : o.guard = none) (s x : Operand) (t : TypeId)
    (ho : o.op = .call { callee := .builtin .append, args := #[s, x], argTypes := #[t, t] }) (i : TypeInfo) (ht : P.underlying t = some (.slice 38)) (hi : P.info? 38 = some i)
    (hz : i.zero = some (.agg #[.int .i64 0, .int .i64 0])) (hsize : i.size = 2) (hby : i.bytes = 16) (a1 : Option Addr) (len1 cap1 : Nat) (xs1 : List (Int × Int)) (hs : act.eval s = .slice a1 len1 cap1) (lo hi1 : Nat) (hown : OwnL w lo hi1 a1 len1 cap1 xs1)
    (ad : Addr) (len2 cap2 : Nat) (xs2 : List (Int × Int)) (hx : act.eval x = .slice (some ad) len2 cap2) (hsee : SeesL w (some ad) len2 xs2) (h63 : len1 + len2 ≤ maxLen) (h47 : (len1 + len2) * 16 ≤ 140737488355328) (hlo : lo ≤ w.heap.size)
    (h : ∀ a' len' cap' w', len' = len1 + len2 → OwnL w' lo w'.heap.size a' len' cap' (xs1 ++ xs2) → Moved lo hi1 w w' → wpList P ops Q rest (act.put o.dst (.slice a' len' cap')) w') : wpList P ops Q (o :: rest) act w := by
  have hn2 : ((flatL xs2).map (Value.int .i64)).length = len2 * 2 := by rw [List.length_map, flatL_len, hsee.1]
  refine wpList_append_own w hgd s x t ho lo 38 i _ 2 16 ht hi hz hsize hby rfl (by decide) _ len1 _ hs hown.2.2.2.1 ad len2 cap2 ((flatL xs2).map (.int .i64)) hx hn2 ?_ (ints_oneCell _ _) h63 h47 hlo ?_
  · intro j u hu
    have hj := (List.getElem?_eq_some_iff.1 hu).1
    rw [hn2] at hj
    rcases hsee.2.2 with h0 | ⟨b, off, ha, _, hc⟩
    · omega
    · obtain rfl := Option.some.inj ha
      obtain ⟨k, hk⟩ : ∃ k, j = k * 2 ∨ j = k * 2 + 1 := ⟨j / 2, by omega⟩
      have hcell := hc k (by omega)
      rw [List.getElem?_map] at hu
      rw [add_plain]
      rcases hk with rfl | rfl
      · rw [flatL_num xs2 k (by rw [hsee.1]; omega)] at hu
        rw [hcell.1, ← hu]
        rfl
      · rw [flatL_den xs2 k (by rw [hsee.1]; omega)] at hu
        rw [← Nat.add_assoc, hcell.2, ← hu]
        rfl
  · intro v' w' ho' hg _
    obtain ⟨a', cap', rfl⟩ := own_shapeL ho'
    refine h a' _ cap' w' rfl (ownL_of (n := len1 + len2) (by rw [flatL_append, List.map_append]; exact ho') (hown.2.1.append hsee.2.1)) ?_
    refine ⟨hg.os, hg.tape, hg.output, hg.size, fun k hk hne => hg.block k hk fun e => hne ?_⟩
    cases a1 with
    | none => simp [Value.ownBlock] at e
    | some x =>
      simp only [Value.ownBlock, Option.some.injEq] at e
      have := hown.2.2.2.2 _ rfl
      omega
end Go.Proofs.Ytbjjgcfmdlinaaa
namespace Go.Proofs.Ytbjjgcfmdlinaaa
open Go.RowKit
/-- What a law's walk is told of an argument. -/
def IsLinks (w : World) (a : Option Addr) (len : Nat) (xs : List (Int × Int)) : Prop := SeesL w a len xs ∧ len ≤ maxLen
theorem isLinks_nil (w : World) (a : Option Addr) : IsLinks w a 0 [] := ⟨⟨rfl, (fun _ h => by cases h), .inl rfl⟩, Nat.zero_le _⟩
theorem seesL_open {w : World} {a : Addr} {len : Nat} {X Y : Nat → Int} (h : ∀ i, i < len → w.cell? (a.add (i * 2)) = some (.int .i64 (X i)) ∧ w.cell? (a.add (i * 2 + 1)) = some (.int .i64 (Y i)) ∧ (Lit.int .i64 (X i)).wf = true ∧ (Lit.int .i64 (Y i)).wf = true) :
    SeesL w (some a) len ((List.range len).map fun i => (X i, Y i)) := by
  refine ⟨by simp, fun p hp => ?_, ?_⟩
  · obtain ⟨i, hi, rfl⟩ := List.mem_map.1 hp
    exact (h i (List.mem_range.1 hi)).2.2
  · rcases Nat.eq_zero_or_pos len with h0 | h0
    · exact .inl h0
    · obtain ⟨b, off, spot⟩ := a
      have hs : spot = none := by simpa [Addr.add] using World.cell?_spot (h 0 h0).1
      subst hs
      have h1 := (h 0 h0).1
      rw [add_plain] at h1
      refine .inr ⟨b, off, rfl, World.block_lt_of_cell? w _ h1, fun j hj => ?_⟩
      obtain ⟨g1, g2, _⟩ := h j hj
      rw [add_plain] at g1 g2
      have e : ((List.range len).map fun i => (X i, Y i)).getD j (0, 0) = (X j, Y j) := by simp [List.getD, hj]
      rw [e]
      exact ⟨g1, by rw [Nat.add_assoc]; exact g2⟩
end Go.Proofs.Ytbjjgcfmdlinaaa
