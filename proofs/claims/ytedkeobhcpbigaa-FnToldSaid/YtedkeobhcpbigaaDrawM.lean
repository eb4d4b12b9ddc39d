/- Draws of chapter 5: rows and matrices. -/
import Derived.Test.YtedkeobhcpbigaaDrawB
import Derived.Test.YtedkeobhcpbigaaElimP
import Derived.Test.YtedkeobhcpbigaaRedW
namespace Go.Proofs.Ytedkeobhcpbigaa
open Go.RowKit
theorem OwnM.grown {w w' : World} {lo hi B : Nat} {a : Option Addr} {len cap : Nat} {ms : List (List Int)} (h : OwnM w lo hi a len cap ms) (hg : w.grownBy w' (some B)) (hB : B < lo) : OwnM w' lo hi a len cap ms :=
  h.moved (Moved.of_grown hg (Nat.le_refl _) (Nat.lt_succ_self _)) (.inr hB)
theorem wp_append_run {P : Program} {w : World} {ops : Array Oper} {rest : List Oper} {o : Oper} {act : Act} {Q : Exit → Act → World → Prop} (hgd : o.guard = none) (s x : Operand) (t : TypeId)
    (ho : o.op = .call { callee := .builtin .append, args := #[s, x], argTypes := #[t, t] }) (vs vx : Value) (hs : act.eval s = vs) (hx : act.eval x = vx) (v' : Value) (w' : World) (hr : (Builtin.append_ #[t, t] o.type #[vs, vx]).run P w = .ok v' w')
    (h : wpList P ops Q rest (act.put o.dst v') w') : wpList P ops Q (o :: rest) act w := by
  refine wpList_plain hgd fun K hK => ?_
  unfold Oper.wp execOp
  simp only [ho, resolve, invoke, builtin, Sem.run_bind, Sem.run_pure, Result.andThen_ok, List.map_toArray, List.map_cons, List.map_nil, hs, hx, hr]
  exact hK _ _ h
/-- What a draw of a row leaves. -/
def DrewR (B n : Nat) (w : World) (e : Ending) (w' : World) : Prop :=
  ∃ (zs : List Int) (a : Option Addr) (cap : Nat), e = .returned (.slice a n cap) ∧ Own .i64 3 w' w.heap.size w'.heap.size a n cap zs ∧ Cur w' B ∧ w.grownBy w' (some B)
set_option maxHeartbeats 800000 in
theorem row5_any (W : World) (B n : Nat) (hn : n ≤ 6) (hc : Cur W B) : Calls Try.prog 84 #[.pointer (some ⟨B, 0, none⟩), .int .i64 (n : Int)] W (DrewR B n W) := by
  have HC := Lib.hid hc
  have hB := hc.lt
  clear hc
  obtain ⟨i0, hi, hz0, hz1, hz2⟩ := info_parts info_i64
  go_enter Try.func84, Try.ntmps84
  go_wp2_with fail
  go_loopw [5, 6] (fun v i wr => ∃ (k : Nat) (xs : List Int) (a' : Option Addr) (c' : Nat), k ≤ n ∧ i = .int .i64 k ∧ v = .slice a' k c' ∧ Own .i64 3 wr W.heap.size wr.heap.size a' k c' xs ∧ Cur wr B ∧ W.grownBy wr (some B)) (fun _ i _ => n - (intOf i).toNat)
  case atStart => exact ⟨0, [], _, _, Nat.zero_le _, rfl, rfl, (own_nil _ _ _).wide (Nat.le_refl _) (by simp) (Nat.le_refl _), HC.out.alloc _, World.grownBy_alloc W _ _⟩
  case round =>
    obtain ⟨k, xs, a', c', hk, rfl, rfl, ho, hc, hg⟩ := hrel
    have HO := Lib.hid ho
    have HCC := Lib.hid hc
    have HG := Lib.hid hg
    clear ho hc hg
    by_cases hlt : k < n
    · go_wp2_with (first
        | (go_at_call 62; refine (int_new _ B 8 [0, 0, 1, 1, 1, -1, 2, -2] _ _ rfl rfl (by decide) (by decide) HCC.out).mono ?_; rintro e w2 ⟨y, hy, rfl, hc2, hg2⟩; have HY := Lib.hid ((show ∀ y ∈ [(0 : Int), 0, 1, 1, 1, -1, 2, -2], -2 ≤ y ∧ y ≤ 2 by decide) _ hy); have HC2 := Lib.hid hc2; have HO2 := Lib.hid (HO.out.grown hg2 hB); have HG2 := Lib.hid (grown_trans HG.out hg2); have hsz2 := HG2.out.size; have hyy := HY.out; obtain ⟨hy0, hy1⟩ := hyy; clear hc2 hg2 hy)
        | (at_builtin; refine wp_append_sees rfl _ _ 25 rfl 3 i0 .i64 8 Try.underlying25 hi hz0 hz1 hz2 _ _ _ _ rfl _ _ (HO2.out.alloc _) _ _ _ _ rfl (sees_one (x := y) (WalkArith.wf_i64 (by omega)) _ _) (by unfold maxLen; omega) (by omega) (by simp; omega) ?_; intro a2 len2 cap2 w3 hlen2 ho2 hm2; subst hlen2; have HO3 := Lib.hid ho2; have HM3 := Lib.hid hm2; clear ho2 hm2))
      go_roundw
      case rel => exact ⟨k + 1, _, _, _, by omega, by go_num, rfl, HO3.out, (HC2.out.alloc _).below (HM3.out.below (by omega) (by simp; omega)), grown_moved (grown_trans HG2.out (World.grownBy_alloc w2 _ _)) HM3.out (Nat.le_refl _)⟩
      case measure => simp [intOf]; omega
    · obtain rfl : k = n := by omega
      go_wp2_with fail
      go_ret
      exact ⟨xs, _, _, rfl, HO.out, HCC.out, HG.out⟩
/-- What a draw of rows leaves. -/
def DrewM (B n m : Nat) (w : World) (e : Ending) (w' : World) : Prop :=
  ∃ (ms : List (List Int)) (a : Option Addr) (len cap : Nat), len ≤ m ∧ (∀ r, r < len → (row ms r).length = n) ∧ e = .returned (.slice a len cap) ∧ OwnM w' w.heap.size w'.heap.size a len cap ms ∧ Cur w' B ∧ w.grownBy w' (some B)
theorem ownM_nil0 (W : World) : OwnM (W.alloc (.cells #[] 25)) W.heap.size (W.heap.size + 1) (some ⟨W.heap.size, 0, none⟩) 0 0 [] :=
  ⟨rfl, by simp, fun x hx => by cases hx; exact ⟨Nat.le_refl _, Nat.lt_succ_self _⟩, fun _ => none, fun _ => 0, ⟨rfl, .inr ⟨W.heap.size, 0, #[], rfl, Nat.le_refl _, heap_alloc_new W _, Nat.le_refl _, Nat.zero_le _, rfl, rfl⟩⟩, fun r hr => absurd hr (Nat.not_lt_zero _)⟩
theorem OwnM.alloc {w : World} {lo hi : Nat} {a : Option Addr} {len cap : Nat} {ms : List (List Int)} (h : OwnM w lo hi a len cap ms) (o : Obj) : OwnM (w.alloc o) lo hi a len cap ms :=
  h.below ((Below.refl _ _).alloc (Nat.le_refl _) _)
theorem rows_more {ms : List (List Int)} {z : List Int} {k n : Nat} (hl : ms.length = k) (h : ∀ r, r < k → (row ms r).length = n) (hz : z.length = n) : ∀ r, r < k + 1 → (row (ms ++ [z]) r).length = n := fun r hr => by
  rcases Nat.lt_or_eq_of_le (Nat.lt_succ_iff.1 hr) with h1 | h1
  · rw [row_append_left (by omega)]; exact h r h1
  · rw [h1, ← hl, row_append_last]; exact hz
set_option maxHeartbeats 800000 in
theorem draw5_any (W : World) (B n : Nat) (hn : n ≤ 6) (hc : Cur W B) : Calls Try.prog 83 #[.pointer (some ⟨B, 0, none⟩), .int .i64 (n : Int)] W (DrewM B n 6 W) := by
  have HC := Lib.hid hc
  have hB := hc.lt
  clear hc
  obtain ⟨i1, hi1, hz10, hz11, hz12⟩ := info_parts info_row
  go_enter Try.func83, Try.ntmps83
  go_wp2_with (go_at_call 39; refine (below_any _ B 7 (by decide) (HC.out.alloc _)).mono ?_; rintro e w1 ⟨x, ⟨hx0, hx1⟩, rfl, hc1, hg1⟩; have hx2 : x ≤ 6 := (by omega); have HO1 := Lib.hid ((ownM_nil0 W).grown hg1 hB); have HC1 := Lib.hid hc1; have HG1 := Lib.hid (grown_trans (World.grownBy_alloc W _ _) hg1); have hw1 := HG1.out.size; clear hc1 hg1 hx1)
  go_loopw [5, 6] (fun v i wr => ∃ (kx : Int) (ms : List (List Int)) (a' : Option Addr) (l' c' : Nat), 0 ≤ kx ∧ kx ≤ 6 ∧ l' + kx.toNat ≤ 6 ∧ Hid (∀ r, r < l' → (row ms r).length = n) ∧ i = .int .i64 kx ∧ v = .slice a' l' c' ∧ OwnM wr W.heap.size wr.heap.size a' l' c' ms ∧ Cur wr B ∧ W.grownBy wr (some B)) (fun _ i _ => (intOf i).toNat)
  case atStart => exact ⟨x, [], _, _, _, hx0, hx2, by omega, Lib.hid (fun r hr => absurd hr (Nat.not_lt_zero _)), rfl, rfl, HO1.out.wide (Nat.le_refl _) HO1.out.2.1 (Nat.le_refl _), HC1.out, HG1.out⟩
  case round =>
    obtain ⟨kx, ms, a', l', c', hk0, hk1, hlk, HR, rfl, rfl, ho, hc, hg⟩ := hrel
    have HO := Lib.hid ho
    have HCC := Lib.hid hc
    have HG := Lib.hid hg
    have HL := Lib.hid hlk
    have hl' : l' ≤ 6 := by omega
    have hszr := hg.size
    clear ho hc hg hlk
    by_cases hlt : 0 < kx
    · go_wp2_with (first
        | (go_at_call 84; refine (row5_any _ B n hn HCC.out).mono ?_; rintro e w2 ⟨zs, a2, c2, rfl, ho2, hc2, hg2⟩; have hzl := ho2.1; have HZL := Lib.hid hzl; subst hzl; have HN2 := Lib.hid ho2; have HC2 := Lib.hid hc2; have HO2 := Lib.hid (HO.out.grown hg2 hB); have HG2 := Lib.hid (grown_trans HG.out hg2); have hsz2 := hg2.size; clear hc2 hg2 ho2)
        | (at_builtin; refine wp_append_ownM rfl _ _ 24 rfl i1 Try.underlying24 hi1 hz10 hz11 hz12 _ _ _ rfl w2.heap.size rfl _ W.heap.size wr.heap.size (HO2.out.alloc _) a2 c2 zs (by simp) wr.heap.size _ (HN2.out.alloc _) (Nat.le_refl _) hszr (by omega) (by simp; omega) ?_; intro g4 c4 w4 ho4 hm4; have HO4 := Lib.hid ho4; have HM4 := Lib.hid hm4; clear ho4 hm4))
      go_roundw
      case rel => exact ⟨kx - 1, _, _, _, _, by omega, by omega, by have := HL.out; omega, Lib.hid (rows_more HO.out.1 HR.out rfl), rfl, rfl, HO4.out, (HC2.out.alloc _).below (HM4.out.below (by omega) (by simp; omega)), grown_moved (grown_trans HG2.out (World.grownBy_alloc w2 _ _)) HM4.out (Nat.le_refl _)⟩
      case measure => simp [intOf]; omega
    · go_wp2_with fail
      go_ret
      exact ⟨ms, _, _, _, hl', HR.out, rfl, HO.out, HCC.out, HG.out⟩
end Go.Proofs.Ytedkeobhcpbigaa
/- Draws of chapter 5: matrices, and what is none. -/
namespace Go.Proofs.Ytedkeobhcpbigaa
open Go.RowKit
/-- What a draw of a matrix leaves, or of what is none: rows 1 and on have n columns. -/
def DrewA (B n : Nat) (w : World) (e : Ending) (w' : World) : Prop :=
  ∃ (ms : List (List Int)) (a : Option Addr) (len cap : Nat), len ≤ 13 ∧ (∀ r, r < len → (row ms r).length ≤ 7) ∧ (∀ r, 1 ≤ r → r < len → (row ms r).length = n) ∧ e = .returned (.slice a len cap) ∧ OwnM w' w.heap.size w'.heap.size a len cap ms ∧ Cur w' B ∧ w.grownBy w' (some B)
theorem rows_set {ms : List (List Int)} {n : Nat} {z : List Int} {len : Nat} (hl : ms.length = len) (h0 : 0 < len) (h : ∀ r, r < len → (row ms r).length = n) (hn : n ≤ 7) (hz : z.length ≤ 7) :
    (∀ r, r < len → (row (ms.set 0 z) r).length ≤ 7) ∧ ∀ r, 1 ≤ r → r < len → (row (ms.set 0 z) r).length = n := by
  refine ⟨fun r hr => ?_, fun r h1 hr => ?_⟩
  · by_cases e : r = 0
    · subst e; rw [row_set_same (by omega)]; exact hz
    · rw [row_set_other e, h r hr]; exact hn
  · rw [row_set_other (by omega), h r hr]
theorem OwnM.blockAt {w : World} {lo hi : Nat} {a : Option Addr} {len cap : Nat} {ms : List (List Int)} (h : OwnM w lo hi a len cap ms) (hl : 0 < len) : ∃ g, a = some ⟨g, 0, none⟩ ∧ g < w.heap.size ∧ len ≤ cap ∧ ∀ i, i < len → w.frozen? ⟨g, i, none⟩ = false := by
  obtain ⟨h1, h2, h3, A, C, h4, h5⟩ := h
  rcases ownsRow_spot h4 with ⟨_, h0⟩ | ⟨g, rfl, _, hg, hc, _, _, hf⟩
  · omega
  · exact ⟨g, rfl, hg, hc, fun i _ => hf i⟩
theorem own_cell0 {w : World} {lo hi g len cap : Nat} {zs : List Int} (h : Own .i64 3 w lo hi (some ⟨g, 0, none⟩) len cap zs) (hl : 0 < len) : w.cell? ⟨g, 0, none⟩ = some (.int .i64 (zs.getD 0 0)) := by
  rcases h.spot with ⟨h0, _⟩ | ⟨g', hg', _, _, _, _, hc, _⟩
  · cases h0
  · cases hg'; exact hc 0 hl
theorem own_frozen0 {w : World} {lo hi g len cap : Nat} {zs : List Int} (h : Own .i64 3 w lo hi (some ⟨g, 0, none⟩) len cap zs) : w.frozen? ⟨g, 0, none⟩ = false := by
  rcases h.spot with ⟨h0, _⟩ | ⟨g', hg', _, _, _, _, _, hf⟩
  · cases h0
  · cases hg'; exact hf 0
theorem below_grown {w w' : World} {B : Nat} (h : Below w.heap.size w w') : w.grownBy w' (some B) := ⟨h.os, h.tape, h.output, h.size, fun j hj _ => h.block j hj⟩
set_option maxRecDepth 20000 in
set_option maxHeartbeats 1600000 in
theorem any5_any (W : World) (B n : Nat) (hn1 : 1 ≤ n) (hn : n ≤ 6) (hc : Cur W B) : Calls Try.prog 61 #[.pointer (some ⟨B, 0, none⟩), .int .i64 (n : Int)] W (DrewA B n W) := by
  have HC := Lib.hid hc
  have hB := hc.lt
  clear hc
  obtain ⟨i0, hi, hz0, hz1, hz2⟩ := info_parts info_i64
  obtain ⟨i1, hi1, hz10, hz11, hz12⟩ := info_parts info_row
  go_enter Try.func61, Try.ntmps61
  go_wp2_with fail
  go_at_call 83
  refine (draw5_any _ B n hn HC.out).mono ?_
  rintro e w1 ⟨ms, a1, len1, cap1, hl1, hr1, rfl, ho1, hc1, hg1⟩
  have HO1 := Lib.hid ho1
  have HR1 := Lib.hid hr1
  have HC1 := Lib.hid hc1
  have HG1 := Lib.hid hg1
  have hsz1 := hg1.size
  clear hr1 hc1 hg1
  rcases Nat.eq_zero_or_pos len1 with h0 | h0
  · subst h0
    clear ho1
    go_wp2_with fail
    go_ret
    exact ⟨ms, _, _, _, by omega, fun r hr => absurd hr (Nat.not_lt_zero _), fun r _ hr => absurd hr (Nat.not_lt_zero _), rfl, HO1.out, HC1.out, HG1.out⟩
  · obtain ⟨g, rfl, hgs, hcap, hfz⟩ := ho1.blockAt h0
    have hl0 : ¬ len1 = 0 := by omega
    clear ho1 hfz
    go_wp2_with fail
    go_at_call 39
    refine (below_any _ B 9 (by decide) HC1.out).mono ?_
    rintro e w2 ⟨x, ⟨hx0, hx1⟩, rfl, hc2, hg2⟩
    have HO2 := Lib.hid (HO1.out.grown hg2 hB)
    have HC2 := Lib.hid hc2
    have HG2 := Lib.hid (grown_trans HG1.out hg2)
    have hsz2 := HG2.out.size
    have hgW : W.heap.size ≤ g := (HO1.out.2.2.1 _ rfl).1
    clear hc2 hg2 hx1
    have HL := Lib.hid HO1.out.1
    by_cases hx : x = 0
    · subst hx
      -- an integer more in the first row
      have hin := HO2.out.sees.2 0 h0
      obtain ⟨b5, o5, ai, ci, ha5, _, hci, _, _, _⟩ := hin
      cases ha5
      rw [Nat.zero_add] at hci
      have hgr := (HO2.out.alloc (.cells #[.int .i64 1] 3)).grow (P := Try.prog) (by simp; omega) h0 25 25 i0 Try.underlying25 hi hz0 hz1 hz2 w2.heap.size 1 (by simp) (by decide) (by rw [HR1.out 0 h0]; omega) ((World.cell?_alloc_past _ _ _ (by have := (HO2.out.2.2.1 _ rfl).2; have := HO2.out.2.1; simp only at *; omega)).trans hci)
      obtain ⟨a3, c3, w3, hrun, hcell3, hfz3, ho3, hm3⟩ := hgr
      rw [HR1.out 0 h0] at hrun hci hcell3 ho3 hm3
      have HO3 := Lib.hid ho3
      have HM3 := Lib.hid hm3
      have hrs := rows_set (z := row ms 0 ++ [1]) HL.out h0 HR1.out (by omega) (by rw [List.length_append, HR1.out 0 h0]; simp; omega)
      have HRS := Lib.hid hrs
      have HRUN := Lib.hid hrun
      clear ho3 hm3 hrs hrun
      go_wp2_with (at_builtin; refine wp_append_run rfl _ _ 25 rfl _ _ rfl rfl _ w3 HRUN.out ?_)
      go_ret
      exact ⟨_, _, _, _, by omega, HRS.out.1, HRS.out.2, rfl, HO3.out, (HC2.out.alloc _).below (HM3.out.below (by omega) (by simp; omega)), grown_moved (grown_trans HG2.out (World.grownBy_alloc w2 _ _)) HM3.out (Nat.le_refl _)⟩
    · by_cases hx1 : x = 1
      · subst hx1
        -- a number that is no cell in the first row
        have hin := HO2.out.inner 0 h0 (by omega)
        obtain ⟨g', ai, ci, l2, h2, hg', hci, hoi, _⟩ := hin
        cases hg'
        rcases hoi.spot with ⟨_, hx0', _⟩ | ⟨G, rfl, _, _, _, _, _, _⟩
        · rw [HR1.out 0 h0] at hx0'; omega
        rw [HR1.out 0 h0] at hci
        have HCI := Lib.hid hci
        have hgB : g ≠ B := by omega
        have hBs : B < w2.heap.size := HC2.out.lt
        have hgs2 : g < w2.heap.size := by have h3 := (HO2.out.2.2.1 _ rfl).2; have h4 := HO2.out.2.1; simp only at h3; omega
        clear hoi
        go_wp2_with fail
        go_region_with (first | (go_at_call 62; refine (int_any _ B w2.heap.size 3 [3, -3, 9223372036854775807] rfl (by decide) (by decide) (fun j hj => by rw [World.cell?_drew]; exact intsAt_new w2 [3, -3, 9223372036854775807] _ _ rfl j hj) (by omega) ((HC2.out.alloc _).below (Below.refl (B + 1) _).drew)).mono ?_; rintro e w4 ⟨y, hy, rfl, hc4, hg4⟩; have HY := Lib.hid ((show ∀ y ∈ [(3 : Int), -3, 9223372036854775807], (Lit.int .i64 y).wf = true by decide) _ hy); have HC4 := Lib.hid hc4; have hO4 := (((HO2.out.alloc (.cells #[.int .i64 3, .int .i64 (-3), .int .i64 9223372036854775807] 3)).below (Below.refl _ _).drew).grown hg4 hB); have HO4 := Lib.hid hO4; have HG4 := Lib.hid (grown_trans (grown_trans HG2.out (World.grownBy_alloc w2 _ _)) (grown_trans (below_grown (Below.refl _ _).drew) hg4)); have hszz := HG4.out.size; obtain ⟨g', a6, c6, l6, h6, hg', hc6, ho6, hk6⟩ := hO4.inner 0 h0 hszz; cases hg'; have hcg := (grown_cell hg4 (a := ⟨g, 0, none⟩) (v := .slice (some ⟨G, 0, none⟩) n ci) (by rw [World.cell?_drew, World.cell?_alloc_past _ _ _ hgs2]; exact HCI.out) (by simp; omega)); rw [hc6, HR1.out 0 h0] at hcg; simp only [Option.some.injEq, Value.slice.injEq, true_and] at hcg; obtain ⟨rfl, rfl⟩ := hcg; rw [HR1.out 0 h0] at hc6 ho6 hk6; have hcs0 := own_cell0 ho6 (by omega); have hfz0 := own_frozen0 ho6; have HN6 := Lib.hid (ho6.stored 0 y HY.out); have HK6 := Lib.hid (hk6 _ _ HN6.out.1 HN6.out.2); clear hk6 ho6 hO4 hc4 hg4 hy))
        all_goals (go_wp2)
        all_goals
          go_ret
          have hrs := rows_set (z := (row ms 0).set 0 y) HL.out h0 HR1.out (by omega) (by rw [List.length_set, HR1.out 0 h0]; omega)
          exact ⟨_, _, _, _, by omega, hrs.1, hrs.2, rfl, HK6.out.1.wide (Nat.le_refl _) (by simp [World.setCell]; exact HO4.out.2.1) (Nat.le_refl _), HC4.out.below (HK6.out.2.below (by omega) (by omega)), grown_moved HG4.out HK6.out.2 (Nat.le_refl _)⟩
      · by_cases hx2 : x = 2
        · subst hx2
          go_wp2_with fail
          go_loopw [5] (fun v wr => ∃ (ms' : List (List Int)) (a' : Option Addr) (l' c' : Nat), 1 ≤ l' ∧ l' ≤ 13 ∧ Hid (∀ r, r < l' → (row ms' r).length = n) ∧ v = .slice a' l' c' ∧ OwnM wr W.heap.size wr.heap.size a' l' c' ms' ∧ Cur wr B ∧ W.grownBy wr (some B)) (fun v _ => match v with | .slice _ l _ => 13 - l | _ => 0)
          case atStart => exact ⟨ms, _, _, _, h0, by omega, Lib.hid HR1.out, rfl, HO2.out.wide (Nat.le_refl _) HO2.out.2.1 (Nat.le_refl _), HC2.out, HG2.out⟩
          case round =>
            obtain ⟨ms', a', l', c', hl0', hl13, HR, rfl, ho, hc, hg⟩ := hrel
            have HO := Lib.hid ho
            have HCC := Lib.hid hc
            have HG := Lib.hid hg
            have hszr := hg.size
            clear ho hc hg
            by_cases hlt : l' < 13
            · go_wp2_with (first
                | (go_at_call 84; refine (row5_any _ B n hn HCC.out).mono ?_; rintro e w4 ⟨zs, a2, c2, rfl, ho2, hc2, hg2⟩; have hzl := ho2.1; have HZL := Lib.hid hzl; subst hzl; have HN2 := Lib.hid ho2; have HC4 := Lib.hid hc2; have HO4 := Lib.hid (HO.out.grown hg2 hB); have HG4 := Lib.hid (grown_trans HG.out hg2); have hsz4 := hg2.size; clear hc2 hg2 ho2)
                | (at_builtin; refine wp_append_ownM rfl _ _ 24 rfl i1 Try.underlying24 hi1 hz10 hz11 hz12 _ _ _ rfl w4.heap.size rfl _ W.heap.size wr.heap.size (HO4.out.alloc _) a2 c2 zs (by simp) wr.heap.size _ (HN2.out.alloc _) (Nat.le_refl _) hszr (by omega) (by simp; omega) ?_; intro g5 c5 w5 ho5 hm5; have HO5 := Lib.hid ho5; have HM5 := Lib.hid hm5; clear ho5 hm5))
              go_roundw
              case rel => exact ⟨_, _, _, _, by omega, by omega, Lib.hid (rows_more HO.out.1 HR.out rfl), rfl, HO5.out, (HC4.out.alloc _).below (HM5.out.below (by omega) (by simp; omega)), grown_moved (grown_trans HG4.out (World.grownBy_alloc w4 _ _)) HM5.out (Nat.le_refl _)⟩
              case measure => simp; omega
            · go_wp2_with fail
              go_ret
              exact ⟨ms', _, _, _, hl13, fun r hr => by rw [HR.out r hr]; omega, fun r _ hr => HR.out r hr, rfl, HO.out, HCC.out, HG.out⟩
        · go_wp2_with fail
          go_ret
          exact ⟨ms, _, _, _, by omega, fun r hr => by rw [HR1.out r hr]; omega, fun r _ hr => HR1.out r hr, rfl, HO2.out.wide (Nat.le_refl _) HO2.out.2.1 (Nat.le_refl _), HC2.out, HG2.out⟩
end Go.Proofs.Ytedkeobhcpbigaa
/- Draws of chapter 5: a matrix and a number of columns. -/
namespace Go.Proofs.Ytedkeobhcpbigaa
open Go.RowKit
theorem drawn_small {ms : List (List Int)} {len : Nat} (hl : ms.length = len) (h : len ≤ 13) (hr : ∀ r, r < len → (row ms r).length ≤ 7) : SmallM ms := by
  have := tot_le (ms := ms) (n := 7) (fun i hi => hr i (by omega)) _ (Nat.le_refl _)
  unfold SmallM
  omega
/-- A matrix, or what is none, and a number of columns. -/
def GotMI (w : World) (e : Ending) (w' : World) : Prop :=
  ∃ (ms : List (List Int)) (a : Option Addr) (len cap : Nat) (n : Int), SmallM ms ∧ len ≤ 13 ∧ (-1 ≤ n ∧ n ≤ 7) ∧ e = .returned (.tuple #[.slice a len cap, .int .i64 n]) ∧ OwnM w' w.heap.size w'.heap.size a len cap ms ∧ Below w.heap.size w w'
set_option maxRecDepth 20000 in
set_option maxHeartbeats 800000 in
theorem drawIsM_any (W : World) (a : Option Addr) (len cap : Nat) (hl : len ≤ 1048576) (hc : CodeAt W W.heap.size a len) : Calls Try.prog 70 #[.slice a len cap] W (GotMI W) := by
  have HK := Lib.hid hc
  clear hc
  go_enter Try.func70, Try.ntmps70
  go_wp2_with fail
  go_at_call 38
  refine (new_any _ a len cap hl HK.out).mono ?_
  rintro e w1 ⟨rfl, hc1, hb1, hz1⟩
  have HC1 := Lib.hid hc1
  have HB1 := Lib.hid hb1
  clear hc1 hb1
  go_wp2_with fail
  go_at_call 39
  refine (below_any _ _ 6 (by decide) HC1.out).mono ?_
  rintro e w2 ⟨x, ⟨hx0, hx1⟩, rfl, hc2, hg2⟩
  have hx2 : x < 6 := by omega
  obtain ⟨n, hn⟩ : ∃ n : Nat, 1 + x = (n : Int) := ⟨(1 + x).toNat, by omega⟩
  have hn1 : 1 ≤ n := by omega
  have hn6 : n ≤ 6 := by omega
  have HN := Lib.hid hn
  have HC2 := Lib.hid hc2
  have HB2 := Lib.hid (HB1.out.trans (grown_below' hg2 (Nat.le_of_lt hz1)))
  have hz2 : W.heap.size < w2.heap.size := Nat.lt_of_lt_of_le hz1 hg2.size
  clear hc2 hg2 hx1 hn
  go_wp2_with fail
  rw [HN.out]
  go_at_call 61
  refine (any5_any _ _ n hn1 hn6 HC2.out).mono ?_
  rintro e w3 ⟨ms, a3, l3, c3, hl3, hr3, _, rfl, ho3, hc3, hg3⟩
  have HSM := Lib.hid (drawn_small ho3.1 hl3 hr3)
  have HO3 := Lib.hid ho3
  have HC3 := Lib.hid hc3
  have hsz2 := HB2.out.size
  have HB3 := Lib.hid (HB2.out.trans (grown_below' hg3 (by omega)))
  clear ho3 hc3 hg3 hr3
  go_wp2_with fail
  go_at_call 60
  refine (once_any _ _ 8 (by decide) HC3.out).mono ?_
  rintro e w4 ⟨q, rfl, hc4, hg4⟩
  have HC4 := Lib.hid hc4
  have HO4 := Lib.hid (HO3.out.grown hg4 (by omega))
  have hsz3 := HB3.out.size
  have HB4 := Lib.hid (HB3.out.trans (grown_below' hg4 (by omega)))
  clear hc4 hg4
  cases q
  · go_wp2_with fail
    go_ret2
    exact ⟨ms, _, _, _, _, HSM.out, hl3, ⟨by omega, by omega⟩, rfl, HO4.out.wide (by omega) HO4.out.2.1 (Nat.le_refl _), HB4.out⟩
  · go_wp2_with (go_at_call 62; refine (int_new _ _ 3 [0, 7, -1] _ _ rfl rfl (by decide) (by decide) HC4.out).mono ?_; rintro e w5 ⟨y, hy, rfl, hc5, hg5⟩; have HY := Lib.hid ((show ∀ y ∈ [(0 : Int), 7, -1], -1 ≤ y ∧ y ≤ 7 by decide) _ hy); have HO5 := Lib.hid (HO4.out.grown hg5 (by omega)); have hsz4 := HB4.out.size; have HB5 := Lib.hid (HB4.out.trans (grown_below' hg5 (by omega))); clear hc5 hg5 hy)
    go_ret2
    exact ⟨ms, _, _, _, _, HSM.out, hl3, HY.out, rfl, HO5.out.wide (by omega) HO5.out.2.1 (Nat.le_refl _), HB5.out⟩
end Go.Proofs.Ytedkeobhcpbigaa
