/- Draws of chapter 11: replies of routers. -/
import Derived.Test.YtgninjdnfidpcaaDrawB
import Derived.Test.YtgninjdnfidpcaaDrawNum
import Derived.Test.YtgninjdnfidpcaaSlY
import Derived.Test.YtgninjdnfidpcaaStepSl
import Derived.Test.YtgninjdnfidpcaaAppM
import Derived.Deep.RegionHeld3
namespace Go.Proofs.Ytgninjdnfidpcaa
open Go.RowKit
theorem OwnY.narrow {w : World} {lo hi g : Nat} {len cap : Nat} {xs : List (Int × Int × Int)} (h : OwnY w lo hi (some ⟨g, 0, none⟩) len cap xs) : OwnY w g (g + 1) (some ⟨g, 0, none⟩) len cap xs := by
  obtain ⟨h1, h2, h3, h4, h5⟩ := h
  have hb := h5 _ rfl
  simp only at hb
  refine ⟨h1, h2, by omega, ⟨h4.1, ?_⟩, fun x hx => by cases hx; simp⟩
  rcases h4.2 with h | ⟨g', c, cur, hv, hlo, rest⟩
  · exact .inl h
  · simp only [Value.slice.injEq, Option.some.injEq, Addr.mk.injEq, and_true, true_and] at hv
    obtain ⟨rfl, rfl⟩ := hv
    exact .inr ⟨g, cap, cur, rfl, Nat.le_refl _, rest⟩
/-- Rows of different kinds lie in different blocks. -/
theorem OwnY.apartI {w : World} {lo hi lo2 hi2 g gi : Nat} {len cap len2 cap2 : Nat} {xs : List (Int × Int × Int)} {zs : List Int} (h : OwnY w lo hi (some ⟨g, 0, none⟩) len cap xs) (h2 : Own .i64 3 w lo2 hi2 (some ⟨gi, 0, none⟩) len2 cap2 zs) : gi ≠ g := by
  rintro rfl
  rcases h.2.2.2.1.2 with ⟨hv, _⟩ | ⟨g1, c1, cur1, hv1, _, hg1, _⟩
  · simp at hv
  · rcases h2.2.2.2.1.2 with ⟨hv, _⟩ | ⟨g2, c2, cur2, hv2, _, hg2, _⟩
    · simp at hv
    · simp only [Value.slice.injEq, Option.some.injEq, Addr.mk.injEq, and_true, true_and] at hv1 hv2
      obtain ⟨rfl, _⟩ := hv1
      obtain ⟨rfl, _⟩ := hv2
      rw [hg1] at hg2
      have := Option.some.inj hg2
      simp only [Obj.cells.injEq] at this
      exact absurd this.2.1 (by decide)
theorem OwnY.grown {w w' : World} {lo hi B : Nat} {a : Option Addr} {len cap : Nat} {xs : List (Int × Int × Int)} (h : OwnY w lo hi a len cap xs) (hg : w.grownBy w' (some B)) (hB : B < lo) : OwnY w' lo hi a len cap xs :=
  h.moved (Moved.of_grown hg (lo := B) (hi := B + 1) (Nat.le_refl _) (Nat.lt_succ_self _)) (.inr hB)
theorem run_append_seesY {P : Program} (w : World) (t ty : TypeId) (i : TypeInfo) (ht : P.underlying t = some (.slice 86)) (hi : P.info? 86 = some i)
    (hz : i.zero = some (.agg #[.int .i64 0, .int .i64 0, .int .i64 0])) (hsize : i.size = 3) (hby : i.bytes = 24) (a1 : Option Addr) (len1 cap1 : Nat) (xs1 : List (Int × Int × Int)) (lo hi1 : Nat) (hown : OwnY w lo hi1 a1 len1 cap1 xs1)
    (ad : Addr) (len2 cap2 : Nat) (xs2 : List (Int × Int × Int)) (hsee : SeesY w (some ad) len2 xs2) (h63 : len1 + len2 ≤ maxLen) (h47 : (len1 + len2) * 24 ≤ 140737488355328) (hlo : lo ≤ w.heap.size) :
    ∃ a' len' cap' w', (Builtin.append_ #[t, t] ty #[.slice a1 len1 cap1, .slice (some ad) len2 cap2]).run P w = .ok (.slice a' len' cap') w' ∧ len' = len1 + len2 ∧ OwnY w' lo w'.heap.size a' len' cap' (xs1 ++ xs2) ∧ Moved lo hi1 w w' := by
  have hn2 : ((flatY xs2).map (Value.int .i64)).length = len2 * 3 := by rw [List.length_map, flatY_len, hsee.1]
  obtain ⟨v', w', hr, ho', hg, _, _⟩ := run_append_own_at (P := P) w lo t ty 86 i _ 3 24 ht hi hz hsize hby rfl (by decide) _ len1 _ hown.2.2.2.1 ad len2 cap2 ((flatY xs2).map (.int .i64)) hn2 (by
    intro j u hu
    have hj := (List.getElem?_eq_some_iff.1 hu).1
    rw [hn2] at hj
    rcases hsee.2.2 with h0 | ⟨b, off, ha, _, hc⟩
    · omega
    · obtain rfl := Option.some.inj ha
      obtain ⟨k, hk⟩ : ∃ k, j = k * 3 ∨ j = k * 3 + 1 ∨ j = k * 3 + 2 := ⟨j / 3, by omega⟩
      have hcell := hc k (by omega)
      obtain ⟨f0, f1, f2⟩ := flatY_at xs2 k (by rw [hsee.1]; omega)
      rw [List.getElem?_map] at hu
      rw [add_plain]
      rcases hk with rfl | rfl | rfl
      · rw [f0] at hu
        rw [hcell.1, ← hu]
        rfl
      · rw [f1] at hu
        rw [← Nat.add_assoc, hcell.2.1, ← hu]
        rfl
      · rw [f2] at hu
        rw [← Nat.add_assoc, hcell.2.2, ← hu]
        rfl) (ints_oneCell _ _) h63 h47 hlo
  obtain ⟨a', cap', rfl⟩ := own_shapeY ho'
  refine ⟨a', _, cap', w', hr, rfl, ownY_of (n := len1 + len2) (by rw [flatY_append, List.map_append]; exact ho') (hown.2.1.append hsee.2.1), hg.os, hg.tape, hg.output, hg.size, fun k hk hne => hg.block k hk fun e => hne ?_⟩
  cases a1 with
  | none => simp [Value.ownBlock] at e
  | some x =>
    simp only [Value.ownBlock, Option.some.injEq] at e
    have := hown.2.2.2.2 _ rfl
    omega
theorem step_append_seesY {P : Program} {w : World} {ops : Array Oper} {o : Oper} {act : Act} {K : Act → World → Prop} {Q : Exit → Act → World → Prop} {E : Prop} (hgd : Region.wanted o (yielded ops act.tmps) = true) (s x : Operand) (t : TypeId)
    (ho : o.op = .call { callee := .builtin .append, args := #[s, x], argTypes := #[t, t] }) (i : TypeInfo) (ht : P.underlying t = some (.slice 86)) (hi : P.info? 86 = some i)
    (hz : i.zero = some (.agg #[.int .i64 0, .int .i64 0, .int .i64 0])) (hsize : i.size = 3) (hby : i.bytes = 24) (a1 : Option Addr) (len1 cap1 : Nat) (xs1 : List (Int × Int × Int)) (hs : act.eval s = .slice a1 len1 cap1) (lo hi1 : Nat) (hown : OwnY w lo hi1 a1 len1 cap1 xs1)
    (ad : Addr) (len2 cap2 : Nat) (xs2 : List (Int × Int × Int)) (hx : act.eval x = .slice (some ad) len2 cap2) (hsee : SeesY w (some ad) len2 xs2) (h63 : len1 + len2 ≤ maxLen) (h47 : (len1 + len2) * 24 ≤ 140737488355328) (hlo : lo ≤ w.heap.size)
    (h : ∀ a' len' cap' w', len' = len1 + len2 → OwnY w' lo w'.heap.size a' len' cap' (xs1 ++ xs2) → Moved lo hi1 w w' → K (act.put o.dst (.slice a' len' cap')) w') :
    if Region.wanted o (yielded ops act.tmps) = true then Oper.wp P o act w K Q else E := by
  obtain ⟨a', len', cap', w', hr, h1, h2, h3⟩ := run_append_seesY (P := P) w t o.type i ht hi hz hsize hby a1 len1 cap1 xs1 lo hi1 hown ad len2 cap2 xs2 hsee h63 h47 hlo
  rw [if_pos hgd]
  exact oper_append_run w s x t ho _ _ hs hx _ w' hr (h a' len' cap' w' h1 h2 h3)
theorem OwnY.someA {w : World} {lo hi : Nat} {a : Option Addr} {len cap : Nat} {xs : List (Int × Int × Int)} (h : OwnY w lo hi a len cap xs) (hl : 0 < len) : ∃ g, a = some ⟨g, 0, none⟩ := by
  rcases h.2.2.2.1.2 with ⟨hv, h0⟩ | ⟨g, c, cur, hv, _⟩
  · omega
  · simp only [Value.slice.injEq] at hv
    exact ⟨g, hv.1⟩
theorem Own.cellJ {k : IntKind} {e : TypeId} {w : World} {lo hi g : Nat} {len cap : Nat} {zs : List Int} (h : Own k e w lo hi (some ⟨g, 0, none⟩) len cap zs) {j : Nat} (hj : j < len) : w.cell? ⟨g, j, none⟩ = some (.int k (zs.getD j 0)) := by
  rcases h.spot with ⟨h0, _⟩ | ⟨g', hg, _, _, _, _, hc, _⟩
  · cases h0
  · cases hg; exact hc j hj
theorem Own.cellV {k : IntKind} {e : TypeId} {w : World} {lo hi g : Nat} {len cap : Nat} {zs : List Int} {v : Int} (h : Own k e w lo hi (some ⟨g, 0, none⟩) len cap zs) {j : Nat} (hj : j < len) (hv : zs.getD j 0 = v) : w.cell? ⟨g, j, none⟩ = some (.int k v) := by
  rw [← hv]
  exact h.cellJ hj
theorem Own.freeJ {k : IntKind} {e : TypeId} {w : World} {lo hi g : Nat} {len cap : Nat} {zs : List Int} (h : Own k e w lo hi (some ⟨g, 0, none⟩) len cap zs) (j : Nat) : w.frozen? ⟨g, j, none⟩ = false := by
  rcases h.spot with ⟨h0, _⟩ | ⟨g', hg, _, _, _, _, _, hf⟩
  · cases h0
  · cases hg; exact hf j
theorem grown_drew (w : World) (row : Option Nat) : w.grownBy w.drew row := ⟨rfl, rfl, rfl, Nat.le_refl _, fun _ _ _ => rfl⟩
/-- What a draw of replies leaves. -/
def DrewYs (B n : Nat) (w : World) (e : Ending) (w' : World) : Prop := ∃ (xs : List (Int × Int × Int)) (a : Option Addr) (len cap : Nat), len ≤ n ∧ e = .returned (.slice a len cap) ∧ OwnY w' w.heap.size w'.heap.size a len cap xs ∧ Cur w' B ∧ w.grownBy w' (some B)
theorem mem3 {x : Int} {a b c : Int} (h : x ∈ [a, b, c]) : x = a ∨ x = b ∨ x = c := by simpa using h
theorem small_set {zs : List Int} {m m2 : Int} {j : Nat} {v : Int} (h : ∀ i, i < 3 → 0 ≤ zs.getD i 0 ∧ zs.getD i 0 ≤ m) (hm : m ≤ m2) (hv : 0 ≤ v ∧ v ≤ m2) (hl : zs.length = 3) : ∀ i, i < 3 → 0 ≤ (zs.set j v).getD i 0 ∧ (zs.set j v).getD i 0 ≤ m2 := fun i hi => by
  have e : (zs.set j v).getD i 0 = if j = i then v else zs.getD i 0 := by
    unfold List.getD
    rw [List.getElem?_set]
    by_cases hji : j = i
    · subst hji; rw [if_pos rfl, if_pos (by omega), if_pos rfl]; rfl
    · rw [if_neg hji, if_neg hji]
  rw [e]
  split
  · exact hv
  · have := h i hi; omega
set_option maxRecDepth 20000 in
set_option maxHeartbeats 3200000 in
theorem draw11_any (W : World) (B : Nat) (hc : Cur W B) : Calls Try.prog 108 #[.pointer (some ⟨B, 0, none⟩)] W (DrewYs B 10 W) := by
  have HC0 := Lib.hid hc
  have hB := hc.lt
  clear hc
  obtain ⟨i0, hi, hz0, hz1, hz2⟩ := info_parts info_rep
  obtain ⟨V, hV⟩ : ∃ V, V = (W.alloc (.cells #[] 86)).alloc (.cells #[.int .i64 10, .int .i64 500, .int .i64 20] 3) := ⟨_, rfl⟩
  have HCV := Lib.hid (show Cur V B by rw [hV]; exact (HC0.out.alloc _).alloc _)
  have HGV := Lib.hid (show W.grownBy V (some B) by rw [hV]; exact grown_trans (World.grownBy_alloc W _ _) (World.grownBy_alloc _ _ _))
  have HYV := Lib.hid (show OwnY V W.heap.size (W.heap.size + 1) (some ⟨W.heap.size, 0, none⟩) 0 0 [] by rw [hV]; exact (ownY_nil W).alloc _)
  have HIV := Lib.hid (show Own .i64 3 V (W.heap.size + 1) (W.heap.size + 1 + 1) (some ⟨W.heap.size + 1, 0, none⟩) 3 3 [10, 500, 20] by
    rw [hV]
    refine ⟨rfl, by decide, by simp, ⟨rfl, .inr ⟨W.heap.size + 1, 3, #[.int .i64 10, .int .i64 500, .int .i64 20], rfl, Nat.le_refl _, ?_, Nat.le_refl _, by unfold maxLen; omega, rfl, rfl⟩⟩, fun x hx => ?_⟩
    · have h := heap_alloc_new (W.alloc (.cells #[] 86)) (.cells #[.int .i64 10, .int .i64 500, .int .i64 20] 3)
      rw [World.size_alloc] at h
      exact h
    · obtain rfl := Option.some.inj hx
      exact ⟨Nat.le_refl _, Nat.lt_succ_self _⟩)
  have hzV : V.heap.size = W.heap.size + 2 := by rw [hV]; simp
  go_enter Try.func108, Try.ntmps108
  go_wp2_with fail
  rw [← hV]
  clear hV
  go_at_call 52
  refine (below_any _ B 11 (by decide) HCV.out).mono ?_
  rintro e w1 ⟨z, ⟨hz0', hz1'⟩, rfl, hc1, hg1⟩
  have hz4 : z ≤ 10 := by omega
  have HC1 := Lib.hid hc1
  have HY1 := Lib.hid (HYV.out.grown hg1 hB)
  have HI1 := Lib.hid (HIV.out.grown hg1 (by omega))
  have HG1 := Lib.hid (grown_trans HGV.out hg1)
  have hs1 := hg1.size
  clear hc1 hg1 hz1'
  obtain ⟨m, rfl⟩ : ∃ m : Nat, z = m := ⟨z.toNat, by omega⟩
  go_wp2_with fail
  go_loopw [3, 5, 6, 7] (fun v ts s _ wr => ∃ (k l g c' : Nat) (t : Int) (xs : List (Int × Int × Int)) (zs : List Int), l + k ≤ 10 ∧ 0 ≤ t ∧ t ≤ 5 * (l : Int) ∧ s = .int .i64 (k : Int) ∧ ts = .int .i64 t ∧ v = .slice (some ⟨g, 0, none⟩) l c' ∧ W.heap.size ≤ g ∧ OwnY wr g (g + 1) (some ⟨g, 0, none⟩) l c' xs ∧ Own .i64 3 wr (W.heap.size + 1) (W.heap.size + 1 + 1) (some ⟨W.heap.size + 1, 0, none⟩) 3 3 zs ∧ Hid (∀ i, i < 3 → 0 ≤ zs.getD i 0 ∧ zs.getD i 0 ≤ 500 + 31 * (l : Int)) ∧ Cur wr B ∧ W.grownBy wr (some B)) (fun _ _ s _ _ => (intOf s).toNat)
  case atStart => exact ⟨m, 0, W.heap.size, 0, 0, [], _, by omega, Int.le_refl _, by omega, rfl, rfl, rfl, Nat.le_refl _, HY1.out, HI1.out, Lib.hid (by decide), HC1.out, HG1.out⟩
  case round =>
    obtain ⟨k, l, g, c', t, xs, zs, hkl, ht0, ht1, rfl, rfl, rfl, hgW, hy, ho, HZ, hc, hg⟩ := hrel
    have HY := Lib.hid hy
    have HI := Lib.hid ho
    have HC := Lib.hid hc
    have HG := Lib.hid hg
    have hsz := hg.size
    clear hy ho hc hg HY1 HI1 HC1 HG1 HYV HIV HCV HGV
    by_cases hk : 0 < k
    · have hki : (0 : Int) < (k : Int) := by omega
      have hwt : IntKind.i64.wrap (t + 1) = t + 1 := IntWalk.i64_in _ (by omega)
      go_wp2_with fail
      go_at_call 52
      refine (below_any _ B 4 (by decide) HC.out).mono ?_
      rintro e w2 ⟨y, ⟨hy0, hy1⟩, rfl, hc2, hg2⟩
      have hy2 : y ≤ 3 := by omega
      have HC2 := Lib.hid hc2
      have HY2 := Lib.hid (HY.out.grown hg2 (by omega))
      have HI2 := Lib.hid (HI.out.grown hg2 (by omega))
      have HG2 := Lib.hid (grown_trans HG.out hg2)
      have hsz2 := hg2.size
      clear hc2 hg2 hy1
      obtain ⟨u, hu⟩ : ∃ u, u = t + 1 + y := ⟨_, rfl⟩
      have hwu : IntKind.i64.wrap (t + 1 + y) = u := (IntWalk.i64_in _ (by omega)).trans hu.symm
      have hu0 : 0 ≤ u := by omega
      have hu1 : u ≤ 5 * ((l + 1 : Nat) : Int) := by omega
      clear hu
      go_wp2_with fail
      go_at_call 52
      refine (below_any _ B 3 (by decide) HC2.out).mono ?_
      rintro e w3 ⟨q, ⟨hq0, hq1⟩, rfl, hc3, hg3⟩
      obtain ⟨j, rfl⟩ : ∃ j : Nat, q = (j : Int) := ⟨q.toNat, by omega⟩
      have hj : j < 3 := by omega
      have HC3 := Lib.hid hc3
      have HY3 := Lib.hid (HY2.out.grown hg3 (by omega))
      have HI3 := Lib.hid (HI2.out.grown hg3 (by omega))
      have HG3 := Lib.hid (grown_trans HG2.out hg3)
      have hsz3 := hg3.size
      clear hc3 hg3 hq0 hq1 hwt hwu ht0 ht1 hy0 hy2
      have jj0 : (0 : Int) ≤ (j : Int) := by omega
      have jj1 : (j : Int) < 3 := by omega
      obtain ⟨z, hz⟩ : ∃ z, z = zs.getD j 0 := ⟨_, rfl⟩
      have hzb := HZ.out j hj
      rw [← hz] at hzb
      obtain ⟨hzb0, hzb1⟩ := hzb
      obtain ⟨z1, hz1e⟩ : ∃ z1, z1 = z + 1 := ⟨_, rfl⟩
      have wz : IntKind.i64.wrap (z + 1) = z1 := (IntWalk.i64_in _ (by omega)).trans hz1e.symm
      have HW : Hid (∀ y : Int, 0 ≤ y → y < 30 ∨ (30 : Int) ≤ 0 ∧ y = 0 → IntKind.i64.wrap (z1 + y) = z1 + y) := Lib.hid (fun y h0 h1 => IntWalk.i64_in _ (by omega))
      have HV : Hid (∀ y : Int, 0 ≤ y → y < 30 ∨ (30 : Int) ≤ 0 ∧ y = 0 → 0 ≤ z1 + y ∧ z1 + y ≤ 500 + 31 * ((l + 1 : Nat) : Int)) := Lib.hid (fun y h0 h1 => by omega)
      have HCJ := Lib.hid (HI3.out.cellJ hj)
      have HFJ := Lib.hid (HI3.out.freeJ j)
      have c3 := HCJ.out
      have f3 := HFJ.out
      rw [← hz] at c3
      have HZQ : Hid (zs.getD j 0 = z) := Lib.hid hz.symm
      have HC3D := Lib.hid (HC3.out.below (Below.refl (B + 1) _).drew)
      have HB1 : Hid (B < W.heap.size + 1) := Lib.hid (by omega)
      have HB2 : Hid (B < g) := Lib.hid (by omega)
      have hzw : W.heap.size + 1 < w3.heap.size := HI3.out.2.2.1
      have HU01 := Lib.hid (show 0 ≤ u ∧ u ≤ 5 * ((l + 1 : Nat) : Int) from ⟨hu0, hu1⟩)
      have HUW : Hid ((Lit.int .i64 u).wf = true) := Lib.hid (WalkArith.wf_i64 ⟨by omega, by omega⟩)
      have w2j : IntKind.i64.wrap (2 * (j : Int)) = 2 * (j : Int) := IntWalk.i64_in _ (by omega)
      have HP2 : Hid (∀ y : Int, 0 ≤ y → y < 2 ∨ (2 : Int) ≤ 0 ∧ y = 0 → IntKind.i64.wrap (2 * (j : Int) + y) = 2 * (j : Int) + y) := Lib.hid (fun y h0 h1 => IntWalk.i64_in _ (by omega))
      have HP3 : Hid (∀ y : Int, 0 ≤ y → y < 2 ∨ (2 : Int) ≤ 0 ∧ y = 0 → (Lit.int .i64 (2 * (j : Int) + y)).wf = true) := Lib.hid (fun y h0 h1 => WalkArith.wf_i64 ⟨by omega, by omega⟩)
      have HLK : Hid (l ≤ 9) := Lib.hid (by omega)
      clear hz hzb0 hzb1 hz1e hu0 hu1
      go_wp2_with fail
      go_region_with (first
        | (go_at_call 52; refine (below_any _ B 30 (by decide) HC3D.out).mono ?_; rintro e w4 ⟨y, ⟨hy0, hy1⟩, rfl, hc4, hg4⟩; have wy := HW.out y hy0 hy1; have HVY := Lib.hid (HV.out y hy0 hy1); have HC4 := Lib.hid hc4; have HI4 := Lib.hid ((HI3.out.below (Below.refl _ _).drew).grown hg4 HB1.out); have HY4 := Lib.hid ((HY3.out.below (Below.refl _ _).drew).grown hg4 HB2.out); have HG4 := Lib.hid (grown_trans (grown_trans HG3.out (grown_drew _ _)) hg4); have c4 := HI4.out.cellV hj HZQ.out; have f4 := HI4.out.freeJ j; have hsz4 := hg4.size; clear hc4 hg4 hy0 hy1))
      all_goals
        obtain ⟨hso, hsm⟩ := HI4.out.stored j (z1 + y) (WalkArith.wf_i64 ⟨by have := HVY.out.1; omega, by have := HVY.out.2; omega⟩)
        obtain ⟨zs2, hzs2⟩ : ∃ zs2, zs2 = zs.set j (z1 + y) := ⟨_, rfl⟩
        have HZ2 : Hid (∀ i, i < 3 → 0 ≤ zs2.getD i 0 ∧ zs2.getD i 0 ≤ 500 + 31 * ((l + 1 : Nat) : Int)) := Lib.hid (by rw [hzs2]; exact small_set HZ.out (by omega) HVY.out HI4.out.1)
        rw [← hzs2] at hso
        obtain ⟨U, hU⟩ : ∃ U, U = w4.setCell ⟨W.heap.size + 1, j, none⟩ (.int .i64 (z1 + y)) := ⟨_, rfl⟩
        rw [← hU] at hso hsm
        have HIU := Lib.hid hso
        have hne := HY4.out.apartI HI4.out
        have HYU := Lib.hid (HY4.out.moved hsm (by omega))
        have HCU := Lib.hid (HC4.out.below (hsm.below HB1.out (by have := HI4.out.2.2.1; omega)))
        have HGU := Lib.hid (grown_moved HG4.out hsm (by omega))
        have HVW : Hid ((Lit.int .i64 (z1 + y)).wf = true) := Lib.hid (WalkArith.wf_i64 ⟨by have := HVY.out.1; omega, by have := HVY.out.2; omega⟩)
        have HCUD := Lib.hid (HCU.out.below (Below.refl (B + 1) _).drew)
        have cU := HIU.out.cellJ hj
        have hzv : zs2.getD j 0 = z1 + y := by rw [hzs2]; have h3 := HI4.out.1; simp [List.getD, show j < zs.length by omega]
        rw [hzv] at cU
        have HCU0 := Lib.hid cU
        have HZV := Lib.hid hzv
        have hgiU : W.heap.size + 1 < U.heap.size := HIU.out.2.2.1
        have hgU : g < U.heap.size := HYU.out.2.2.1
        have hl9 := HLK.out
        clear c4 f4 c3 f3 wz wy hsm hso hzs2 hzv hne
        rw [← hU]
        clear hU
        go_wp2_with fail
        go_region_held3 (fun w' => w'.cell? ⟨W.heap.size + 1, j, none⟩ = some (.int .i64 (z1 + y))) (go_keep) (first
          | (go_at_call 52; refine (below_any _ B 2 (by decide) HCUD.out).mono ?_; rintro e w5 ⟨y2, ⟨hy0, hy1⟩, rfl, hc5, hg5⟩; have wy2 := HP2.out y2 hy0 hy1; have HPW := Lib.hid (HP3.out y2 hy0 hy1); have HC5 := Lib.hid hc5; have HI5 := Lib.hid ((HIU.out.below (Below.refl _ _).drew).grown hg5 HB1.out); have HY5 := Lib.hid ((HYU.out.below (Below.refl _ _).drew).grown hg5 HB2.out); have HG5 := Lib.hid (grown_trans (grown_trans HGU.out (grown_drew _ _)) hg5); have c5 : w5.cell? ⟨W.heap.size + 1, j, none⟩ = some (.int .i64 (z1 + y)) := hg5.cell HCU0.out (by simp; have := HB1.out; omega); clear hc5 hg5 hy0 hy1)
          | (refine step_append_seesY (by rfl) _ _ 48 rfl i0 Try.underlying48 hi hz0 hz1 hz2 _ _ _ _ rfl g _ (HY5.out.alloc _) _ 1 1 [(2 * (j : Int) + y2, u, z1 + y)] rfl (seesY_one HPW.out HUW.out HVW.out _ _) (by unfold maxLen; omega) (by omega) (by have := HY5.out.2.2.1; simp; omega) ?_; intro a6 len6 cap6 w6 hlen6 ho6 hm6; subst hlen6; have HO6 := Lib.hid ho6; have HM6 := Lib.hid hm6; have c6 : w6.cell? ⟨W.heap.size + 1, j, none⟩ = some (.int .i64 (z1 + y)) := (HI5.out.alloc _ |>.moved hm6 (by have := HY5.out.apartI HI5.out; omega)).cellV hj HZV.out; clear ho6 hm6))
        all_goals
          go_wp2_with fail
          go_roundw
          case rel =>
            obtain ⟨g6, rfl⟩ := HO6.out.someA (by omega)
            have hx6 := (HO6.out.2.2.2.2 _ rfl).1
            simp only at hx6
            have hne5 := HY5.out.apartI HI5.out
            obtain ⟨k, rfl⟩ : ∃ k', k = k' + 1 := ⟨k - 1, by omega⟩
            exact ⟨k, l + 1, g6, _, u, _, zs2, by omega, HU01.out.1, HU01.out.2, by go_num, rfl, rfl, by omega, HO6.out.narrow, (HI5.out.alloc _).moved HM6.out (by omega), HZ2, (HC5.out.alloc _).below (HM6.out.below (by have := HB2.out; omega) (by have := HY5.out.2.2.1; have := HB2.out; simp; omega)), grown_moved (grown_trans HG5.out (World.grownBy_alloc _ _ _)) HM6.out (by omega)⟩
          case measure => simp [intOf]; omega
    · obtain rfl : k = 0 := by omega
      go_wp2_with fail
      go_ret
      exact ⟨xs, _, _, _, by omega, rfl, HY.out.wide hgW (HY.out.2.2.1) (Nat.le_refl _), HC.out, HG.out⟩
end Go.Proofs.Ytgninjdnfidpcaa
