/- SeenNexts, the model's. -/
import Derived.Test.YtgninjdnfidpcaaBrN
import Derived.Test.YtgninjdnfidpcaaInsW
namespace Go.Proofs.Ytgninjdnfidpcaa
open Go.RowKit
theorem insU_pos (x : Int) (l : List Int) : 0 < (insU x l).length := by
  have h : x ∈ insU x l := insU_mem.2 (.inl rfl)
  cases h1 : insU x l
  · rw [h1] at h; cases h
  · simp
set_option maxRecDepth 20000 in
set_option maxHeartbeats 6400000 in
theorem specSeenN_any (W : World) (nd : Int) (a : Option Addr) (len cap : Nat) (nx : List Int) (q : Option Addr) (lf cf : Nat) (fl : List Int) (hl : len ≤ 1073741824) (hlc : len ≤ cap) (hs : Sees .i64 W a len nx) (hn : (Lit.int .i64 nd).wf = true) (hlf : lf ≤ 1048576) (hf : Sees .i64 W q lf fl) :
    Calls Try.prog 26 #[.agg #[.int .i64 nd, .slice a len cap], .slice q lf cf] W (Made .i64 3 (seenN nd nx fl) W) := by
  obtain ⟨V, hV⟩ : ∃ V, V = W.alloc (.cells #[.int .i64 nd, .slice a len cap] 26) := ⟨_, rfl⟩
  have HBV : Hid (Below W.heap.size W V) := Lib.hid (by rw [hV]; exact below_newB _ _)
  have hzV : V.heap.size = W.heap.size + 1 := by rw [hV]; simp
  have HN := Lib.hid (show BrAt V W.heap.size nd a len cap by rw [hV]; exact br_new _ _ _ _ _ _)
  have HS := Lib.hid (hs.below HBV.out)
  have HF := Lib.hid (hf.below HBV.out)
  have HFL : Hid (fl.length = lf) := Lib.hid hf.1
  have HNW := Lib.hid hn
  clear hs hf hn
  obtain ⟨i0, hi, hz0, hz1, hz2⟩ := info_parts info_i64
  go_enter Try.func26, Try.ntmps26
  go_wp2_with fail
  rw [← hV]
  clear hV
  go_wp2_with fail
  go_loopw [5, 6, 7, 8] (fun v j _ _ wr => ∃ (jj : Nat) (a' : Option Addr) (l' c' : Nat), jj ≤ lf ∧ l' ≤ 1048576 ∧ (seenK12 nd nx fl jj).length = l' ∧ j = .int .i64 jj ∧ v = .slice a' l' c' ∧ (∃ g, a' = some ⟨g, 0, none⟩) ∧ Own .i64 3 wr V.heap.size wr.heap.size a' l' c' (seenK12 nd nx fl jj) ∧ Below V.heap.size V wr) (fun _ j _ _ _ => lf - (intOf j).toNat)
  case atStart => exact ⟨0, _, _, _, Nat.zero_le _, Nat.zero_le _, by simp [seenK12, insAll], rfl, rfl, ⟨_, rfl⟩, by rw [show seenK12 nd nx fl 0 = [] by simp [seenK12, insAll]]; exact own_nilB (w := V) hzV.symm, below_newB _ _⟩
  case round =>
    obtain ⟨jj, a', l', c', hjj, hl', hln, rfl, rfl, ⟨g, rfl⟩, ho, hb⟩ := hrel
    obtain ⟨U, rfl⟩ : ∃ U, U = wr := ⟨_, rfl⟩
    have HO1 := Lib.hid ho
    have HB1 := Lib.hid hb
    have HLN := Lib.hid hln
    have HNU := Lib.hid (HN.out.below hb)
    have HSU := Lib.hid (HS.out.below hb)
    have HFU := Lib.hid (HF.out.below hb)
    have hsz1 := hb.size
    clear ho hb hln
    by_cases hlt2 : jj < lf
    · rcases HFU.out.2.2 with h0 | ⟨b2, o2, rfl, hb20, hcs⟩
      · omega
      have hy := hcs jj hlt2
      obtain ⟨y, hye⟩ : ∃ y, y = fl.getD jj 0 := ⟨_, rfl⟩
      rw [← hye] at hy
      have HYW : Hid ((Lit.int .i64 y).wf = true) := Lib.hid (by rw [hye]; exact HFU.out.2.1 _ (getD_mem (by rw [HFL.out]; exact hlt2)))
      obtain ⟨x, hxe⟩ : ∃ x, x = nextV nd nx y := ⟨_, rfl⟩
      have HXE := Lib.hid hxe
      have hfl : jj < fl.length := by rw [HFL.out]; exact hlt2
      have HSKIP : Hid (x < 0 → seenK12 nd nx fl (jj + 1) = seenK12 nd nx fl jj) := Lib.hid (fun h => seenK12_skip hfl (by rw [← hye, ← hxe]; exact h))
      have HNEXT : Hid (0 ≤ x → seenK12 nd nx fl (jj + 1) = insU x (seenK12 nd nx fl jj)) := Lib.hid (fun h => by have h2 := seenK12_next (nd := nd) (nx := nx) hfl (by rw [← hye, ← hxe]; exact h); rw [← hye, ← hxe] at h2; exact h2)
      have HXW : Hid ((Lit.int .i64 x).wf = true) := Lib.hid (by
        rw [hxe]
        by_cases h : 0 ≤ nextV nd nx y
        · exact HSU.out.2.1 _ (nextV_mem h).1
        · have h2 : nextV nd nx y = -1 := by
            have h3 := h
            unfold nextV at h3 ⊢
            split
            · rename_i hc
              rw [if_pos hc] at h3
              have h4 := Bool.and_eq_true _ _ ▸ hc
              have hm := getD_mem (l := nx) (nextAt_lt (nd := nd) (f := y) (brOk_len h4.1).1)
              have h5 := inR_true.1 (Bool.and_eq_true _ _ ▸ (brOk_true.1 h4.1).1 _ (nextAt_lt (nd := nd) (f := y) (brOk_len h4.1).1)).1
              omega
            · rfl
          rw [h2]; decide)
      have c0 := HNU.out.c0
      have c1 := HNU.out.c1
      have HSD := Lib.hid (HSU.out.below (Below.refl _ _).drew)
      have HBD := Lib.hid (below_up (B := V.heap.size) HB1.out (Below.refl U.heap.size U).drew (Nat.le_refl _))
      have HOD := Lib.hid (HO1.out.below (Below.refl _ _).drew)
      have hy0 : (0 : Int) ≤ (jj : Int) := by omega
      have hy1 : (jj : Int) < (lf : Int) := by omega
      have C0 := Lib.hid c0
      have C1 := Lib.hid c1
      have CY := Lib.hid hy
      have hNU := HNU.out.lt
      clear hcs hye hxe
      go_wp2_with fail
      go_region_held3 (fun w' => (w'.cell? ⟨W.heap.size, 0, none⟩ = some (.int .i64 nd) ∧ w'.cell? ⟨W.heap.size, 1, none⟩ = some (.slice a len cap)) ∧ w'.cell? ⟨b2, o2 + jj, none⟩ = some (.int .i64 y)) (go_keep) (first
        | (go_at_call 25; refine (specNext_any _ nd a len cap nx y hl hlc HSD.out HNW.out HYW.out).mono ?_; rw [← HXE.out]; rintro e Vi ⟨rfl, hb3⟩; have G3 := Lib.hid (below_up (B := U.heap.size) (Below.refl U.heap.size U).drew hb3 (Nat.le_refl _)); have HB := Lib.hid (below_up (B := V.heap.size) HBD.out hb3 (Nat.le_refl _)); have HO2 := Lib.hid (HOD.out.below hb3); have c0 := (G3.out.cell (p := ⟨W.heap.size, 0, none⟩) hNU).trans C0.out; have c1 := (G3.out.cell (p := ⟨W.heap.size, 1, none⟩) hNU).trans C1.out; have hy := (G3.out.cell (p := ⟨b2, o2 + jj, none⟩) hb20).trans CY.out; have hsz := HB.out.size; clear hb3))
      by_cases hx0 : x < 0
      · have HE := Lib.hid (HSKIP.out hx0)
        go_wp2_with fail
        go_roundw
        case rel => exact ⟨jj + 1, _, _, _, hlt2, hl', by rw [HE.out]; exact HLN.out, by go_num, rfl, ⟨_, rfl⟩, by rw [HE.out]; exact HO2.out.wide (Nat.le_refl _) G3.out.size (Nat.le_refl _), HB.out⟩
        case measure => simp [intOf]; omega
      · obtain ⟨acc, hac⟩ : ∃ acc, acc = seenK12 nd nx fl jj := ⟨_, rfl⟩
        have HNX : Hid (seenK12 nd nx fl (jj + 1) = insU x acc) := Lib.hid (by rw [hac]; exact HNEXT.out (by omega))
        have HPOS : Hid (0 < (seenK12 nd nx fl (jj + 1)).length) := Lib.hid (by rw [HNX.out]; exact insU_pos _ _)
        have HO := Lib.hid (HO2.out.wide (Nat.le_refl _) G3.out.size (Nat.le_refl _))
        rw [← hac] at HO HLN
        clear hac HO1 HO2 HOD c0 c1 hy
        go_wp2_with fail
        go_loopw [8] (fun p w => ∃ pp : Nat, pp ≤ l' ∧ p = .int .i64 pp ∧ Hid (∀ r, r < pp → acc.getD r 0 < x) ∧ w = Vi) (fun p _ => l' - (intOf p).toNat)
        case atStart => exact ⟨0, Nat.zero_le _, rfl, Lib.hid (fun r hr => by omega), rfl⟩
        case round =>
          obtain ⟨pp, hpp, rfl, HLT, rfl⟩ := hrel
          have HOA := HO
          have HPA : Hid (pp ≤ acc.length ∧ (∀ r, r < pp → acc.getD r 0 < x) ∧ True) := Lib.hid ⟨by rw [HLN.out]; exact hpp, HLT.out, trivial⟩
          have HT : Hid (Sees .i64 wr (some ⟨g, 0, none⟩) pp (acc.take pp)) := Lib.hid (HO.out.sees.cut8 hpp)
          have HN2 : Hid (Own .i64 3 ((wr.alloc (.cells #[.int .i64 x] 3)).alloc (.cells #[] 3)) (wr.heap.size + 1) (wr.heap.size + 1 + 1) (some ⟨wr.heap.size + 1, 0, none⟩) 0 0 []) := Lib.hid (by
            have h := own_nil .i64 3 (wr.alloc (.cells #[.int .i64 x] 3))
            rw [World.size_alloc] at h
            exact h)
          have HS2 : Hid (Sees .i64 ((wr.alloc (.cells #[] 3)).alloc (.cells #[.int .i64 x] 3)) (some ⟨wr.heap.size + 1, 0, none⟩) 1 [x]) := Lib.hid (by
            have h := sees_one HXW.out (wr.alloc (.cells #[] 3)) 3
            rw [World.size_alloc] at h
            exact h)
          have hcl := HO.out.cap
          by_cases hp : pp < l'
          · have hy0 := HO.out.cell0 hp
            obtain ⟨y, hy⟩ : ∃ y, y = acc.getD pp 0 := ⟨_, rfl⟩
            rw [← hy] at hy0
            have HY := Lib.hid hy
            clear hy
            by_cases hyx : y < x
            · have HLT2 : Hid (∀ r, r < pp + 1 → acc.getD r 0 < x) := Lib.hid (fun r hr => by
                by_cases hrp : r < pp
                · exact HLT.out r hrp
                · obtain rfl : r = pp := by omega
                  rw [← HY.out]; exact hyx)
              clear HT HN2 HS2
              go_wp2
              go_roundw
              case rel => exact ⟨pp + 1, by omega, by go_num, HLT2, trivial⟩
              case measure => simp [intOf]; omega
            · have hyx2 : ¬ y < x := hyx
              by_cases hye : y = x
              · have HE : Hid (seenK12 nd nx fl (jj + 1) = acc) := Lib.hid (by rw [HNX.out, insU_at HPA.out.1 HPA.out.2.1 (fun _ => by rw [← HY.out]; exact hyx), if_pos ⟨by rw [HLN.out]; exact hp, by rw [← HY.out]; exact hye⟩])
                subst hye
                clear HT HN2 HS2
                go_wp2
                go_roundw
                case rel => exact ⟨jj + 1, _, _, _, by omega, hl', by rw [HE.out]; exact HLN.out, by go_num, rfl, ⟨_, rfl⟩, by rw [HE.out]; exact HO.out, HB.out⟩
                case measure => simp [intOf]; omega
              · have hppl : ¬ (pp : Int) = (l' : Int) := by omega
                have hne : (y != x) = true := by simp [hye]
                have HZ6 : Hid (acc.take pp ++ [x] ++ acc.drop pp = seenK12 nd nx fl (jj + 1)) := Lib.hid (by rw [HNX.out, insU_at HPA.out.1 HPA.out.2.1 (fun _ => by rw [← HY.out]; exact hyx), if_neg (fun h => hye (by rw [HY.out]; exact h.2))])
                have ip0 : (0 : Int) ≤ (pp : Int) := by omega
                have ip1 : (pp : Int) ≤ (l' : Int) := by omega
                have ip2 : (l' : Int) ≤ (c' : Int) := by omega
                have ip3 : (pp : Int) ≤ (c' : Int) := by omega
                have HD : Hid (Sees .i64 wr (if c' = pp then some ⟨g, 0, none⟩ else some ⟨g, pp, none⟩) (l' - pp) (acc.drop pp)) := Lib.hid (by
                  split
                  · have h := HOA.out.sees.drop0 HPA.out.1 (by have := HOA.out.cap; omega)
                    exact h
                  · have h := HOA.out.sees.drop1 HPA.out.1
                    rw [Nat.zero_add] at h
                    exact h)
                go_wp2_with fail
                go_region_held3 (fun _ => True) (trivial) (first
                  | (refine step_append_sees rfl _ _ 24 rfl 3 i0 .i64 8 Try.underlying24 hi hz0 hz1 hz2 _ _ _ _ rfl _ _ HO5.out _ _ _ (acc.drop pp) rfl (HD.out.below G5.out) (by unfold maxLen; omega) (by omega) (by have := G5.out.size; omega) ?_; intro a6 len6 cap6 w6 hlen6 ho6 hm6; clear hlen6; rw [HZ6.out] at ho6; have hl6 := ho6.1; subst hl6; have HO6 := Lib.hid ho6; have G6 := Lib.hid (below_moved G5.out hm6 (Nat.le_refl _) (Nat.le_refl _)); clear ho6 hm6)
                  | (refine step_append_sees rfl _ _ 24 rfl 3 i0 .i64 8 Try.underlying24 hi hz0 hz1 hz2 _ _ _ _ rfl _ _ HO4.out _ 1 1 [x] rfl HX4.out (by unfold maxLen; omega) (by omega) (by have := G4.out.size; simp; omega) ?_; intro a5 len5 cap5 w5 hlen5 ho5 hm5; have hl5 : len5 ≤ 1048577 := (by omega); clear hlen5; have HO5 := Lib.hid ho5; have G5 := Lib.hid (below_moved (G4.out) hm5 (Nat.le_refl _) (Nat.le_refl _)); clear ho5 hm5)
                  | (refine step_append_sees rfl _ _ 24 rfl 3 i0 .i64 8 Try.underlying24 hi hz0 hz1 hz2 _ _ _ _ rfl _ _ (HO4.out.alloc _) _ 1 1 [x] rfl (sees_one HXW.out _ _) (by unfold maxLen; omega) (by omega) (by have := G4.out.size; simp; omega) ?_; intro a5 len5 cap5 w5 hlen5 ho5 hm5; have hl5 : len5 ≤ 1048577 := (by omega); clear hlen5; have HO5 := Lib.hid ho5; have G5 := Lib.hid (below_moved (G4.out.alloc G4.out.size _) hm5 (Nat.le_refl _) (Nat.le_refl _)); clear ho5 hm5)
                  | (refine step_append_sees rfl _ _ 24 rfl 3 i0 .i64 8 Try.underlying24 hi hz0 hz1 hz2 _ _ _ _ rfl _ _ ((own_nil _ _ _).below (Below.refl _ _).drew) _ _ _ (acc.take pp) rfl ((HT.out.alloc _).below (Below.refl _ _).drew) (by unfold maxLen; omega) (by omega) (by simp <;> omega) ?_; intro a4 len4 cap4 w4 hlen4 ho4 hm4; have hl4 : len4 ≤ 1048576 := (by omega); clear hlen4; rw [List.nil_append] at ho4; have HO4 := Lib.hid (ho4.wide (lo2 := wr.heap.size) (by simp <;> omega) (Nat.le_refl _) (Nat.le_refl _)); have G4 := Lib.hid (below_moved (((Below.refl wr.heap.size wr).alloc (Nat.le_refl _) _).drew) hm4 (Nat.le_refl _) (by simp <;> omega)); clear ho4 hm4)
                  | (refine step_append_sees rfl _ _ 24 rfl 3 i0 .i64 8 Try.underlying24 hi hz0 hz1 hz2 _ _ _ _ rfl _ _ (((own_nil .i64 3 wr).alloc (.cells #[.int .i64 x] 3)).below (Below.refl _ _).drew) _ _ _ (acc.take pp) rfl (((HT.out.alloc (.cells #[] 3)).alloc (.cells #[.int .i64 x] 3)).below (Below.refl _ _).drew) (by unfold maxLen; omega) (by omega) (by simp <;> omega) ?_; intro a4 len4 cap4 w4 hlen4 ho4 hm4; have hl4 : len4 ≤ 1048576 := (by omega); clear hlen4; rw [List.nil_append] at ho4; have HO4 := Lib.hid (ho4.wide (lo2 := wr.heap.size) (by simp <;> omega) (Nat.le_refl _) (Nat.le_refl _)); have HX4 := Lib.hid ((HS2.out.below (Below.refl _ _).drew).moved hm4 (fun y hy => by cases hy; simp <;> omega)); have G4 := Lib.hid (below_moved ((((Below.refl wr.heap.size wr).alloc (Nat.le_refl _) _).alloc (by simp) _).drew) hm4 (Nat.le_refl _) (by simp <;> omega)); clear ho4 hm4)
                  | (refine step_append_sees rfl _ _ 24 rfl 3 i0 .i64 8 Try.underlying24 hi hz0 hz1 hz2 _ _ _ _ rfl _ _ (HN2.out.below (Below.refl _ _).drew) _ _ _ (acc.take pp) rfl (((HT.out.alloc (.cells #[.int .i64 x] 3)).alloc (.cells #[] 3)).below (Below.refl _ _).drew) (by unfold maxLen; omega) (by omega) (by simp <;> omega) ?_; intro a4 len4 cap4 w4 hlen4 ho4 hm4; have hl4 : len4 ≤ 1048576 := (by omega); clear hlen4; rw [List.nil_append] at ho4; have HO4 := Lib.hid (ho4.wide (lo2 := wr.heap.size) (by simp <;> omega) (Nat.le_refl _) (Nat.le_refl _)); have HX4 := Lib.hid ((((sees_one HXW.out wr 3).alloc (.cells #[] 3)).below (Below.refl _ _).drew).moved hm4 (fun y hy => by cases hy; simp <;> omega)); have G4 := Lib.hid (below_moved ((((Below.refl wr.heap.size wr).alloc (Nat.le_refl _) _).alloc (by simp) _).drew) hm4 (Nat.le_refl _) (by simp <;> omega)); clear ho4 hm4))
                all_goals
                  go_wp2
                  go_roundw
                  case rel => exact ⟨jj + 1, _, _, _, by omega, by have h := seenK12_len nd nx fl (jj + 1); omega, rfl, by go_num, rfl, HO6.out.someA (HPOS.out), HO6.out.wide (by omega) (Nat.le_refl _) (Nat.le_refl _), HB.out.trans (G6.out.mono hsz)⟩
                  case measure => simp [intOf]; omega
          · obtain rfl : pp = l' := by omega
            have HZ6 : Hid (acc.take pp ++ [x] ++ acc.drop pp = seenK12 nd nx fl (jj + 1)) := Lib.hid (by rw [HNX.out, insU_at HPA.out.1 HPA.out.2.1 (fun h => absurd h (by rw [HLN.out]; omega)), if_neg (fun h => absurd h.1 (by rw [HLN.out]; omega))])
            have ip0 : (0 : Int) ≤ (pp : Int) := by omega
            have ip1 : (pp : Int) ≤ (pp : Int) := by omega
            have ip2 : (pp : Int) ≤ (c' : Int) := by omega
            have ip3 : (pp : Int) ≤ (c' : Int) := by omega
            have HD : Hid (Sees .i64 wr (if c' = pp then some ⟨g, 0, none⟩ else some ⟨g, pp, none⟩) 0 (acc.drop pp)) := Lib.hid (by
              split
              · have h := HOA.out.sees.drop0 HPA.out.1 (by have := HOA.out.cap; omega)
                rw [Nat.sub_self] at h
                exact h
              · have h := HOA.out.sees.drop1 HPA.out.1
                rw [Nat.zero_add, Nat.sub_self] at h
                exact h)
            go_wp2_with fail
            go_region_held3 (fun _ => True) (trivial) (first
              | (refine step_append_sees rfl _ _ 24 rfl 3 i0 .i64 8 Try.underlying24 hi hz0 hz1 hz2 _ _ _ _ rfl _ _ HO5.out _ _ _ (acc.drop pp) rfl (HD.out.below G5.out) (by unfold maxLen; omega) (by omega) (by have := G5.out.size; omega) ?_; intro a6 len6 cap6 w6 hlen6 ho6 hm6; clear hlen6; rw [HZ6.out] at ho6; have hl6 := ho6.1; subst hl6; have HO6 := Lib.hid ho6; have G6 := Lib.hid (below_moved G5.out hm6 (Nat.le_refl _) (Nat.le_refl _)); clear ho6 hm6)
              | (refine step_append_sees rfl _ _ 24 rfl 3 i0 .i64 8 Try.underlying24 hi hz0 hz1 hz2 _ _ _ _ rfl _ _ HO4.out _ 1 1 [x] rfl HX4.out (by unfold maxLen; omega) (by omega) (by have := G4.out.size; simp; omega) ?_; intro a5 len5 cap5 w5 hlen5 ho5 hm5; have hl5 : len5 ≤ 1048577 := (by omega); clear hlen5; have HO5 := Lib.hid ho5; have G5 := Lib.hid (below_moved (G4.out) hm5 (Nat.le_refl _) (Nat.le_refl _)); clear ho5 hm5)
              | (refine step_append_sees rfl _ _ 24 rfl 3 i0 .i64 8 Try.underlying24 hi hz0 hz1 hz2 _ _ _ _ rfl _ _ (HO4.out.alloc _) _ 1 1 [x] rfl (sees_one HXW.out _ _) (by unfold maxLen; omega) (by omega) (by have := G4.out.size; simp; omega) ?_; intro a5 len5 cap5 w5 hlen5 ho5 hm5; have hl5 : len5 ≤ 1048577 := (by omega); clear hlen5; have HO5 := Lib.hid ho5; have G5 := Lib.hid (below_moved (G4.out.alloc G4.out.size _) hm5 (Nat.le_refl _) (Nat.le_refl _)); clear ho5 hm5)
              | (refine step_append_sees rfl _ _ 24 rfl 3 i0 .i64 8 Try.underlying24 hi hz0 hz1 hz2 _ _ _ _ rfl _ _ ((own_nil _ _ _).below (Below.refl _ _).drew) _ _ _ (acc.take pp) rfl ((HT.out.alloc _).below (Below.refl _ _).drew) (by unfold maxLen; omega) (by omega) (by simp <;> omega) ?_; intro a4 len4 cap4 w4 hlen4 ho4 hm4; have hl4 : len4 ≤ 1048576 := (by omega); clear hlen4; rw [List.nil_append] at ho4; have HO4 := Lib.hid (ho4.wide (lo2 := wr.heap.size) (by simp <;> omega) (Nat.le_refl _) (Nat.le_refl _)); have G4 := Lib.hid (below_moved (((Below.refl wr.heap.size wr).alloc (Nat.le_refl _) _).drew) hm4 (Nat.le_refl _) (by simp <;> omega)); clear ho4 hm4)
              | (refine step_append_sees rfl _ _ 24 rfl 3 i0 .i64 8 Try.underlying24 hi hz0 hz1 hz2 _ _ _ _ rfl _ _ (((own_nil .i64 3 wr).alloc (.cells #[.int .i64 x] 3)).below (Below.refl _ _).drew) _ _ _ (acc.take pp) rfl (((HT.out.alloc (.cells #[] 3)).alloc (.cells #[.int .i64 x] 3)).below (Below.refl _ _).drew) (by unfold maxLen; omega) (by omega) (by simp <;> omega) ?_; intro a4 len4 cap4 w4 hlen4 ho4 hm4; have hl4 : len4 ≤ 1048576 := (by omega); clear hlen4; rw [List.nil_append] at ho4; have HO4 := Lib.hid (ho4.wide (lo2 := wr.heap.size) (by simp <;> omega) (Nat.le_refl _) (Nat.le_refl _)); have HX4 := Lib.hid ((HS2.out.below (Below.refl _ _).drew).moved hm4 (fun y hy => by cases hy; simp <;> omega)); have G4 := Lib.hid (below_moved ((((Below.refl wr.heap.size wr).alloc (Nat.le_refl _) _).alloc (by simp) _).drew) hm4 (Nat.le_refl _) (by simp <;> omega)); clear ho4 hm4)
              | (refine step_append_sees rfl _ _ 24 rfl 3 i0 .i64 8 Try.underlying24 hi hz0 hz1 hz2 _ _ _ _ rfl _ _ (HN2.out.below (Below.refl _ _).drew) _ _ _ (acc.take pp) rfl (((HT.out.alloc (.cells #[.int .i64 x] 3)).alloc (.cells #[] 3)).below (Below.refl _ _).drew) (by unfold maxLen; omega) (by omega) (by simp <;> omega) ?_; intro a4 len4 cap4 w4 hlen4 ho4 hm4; have hl4 : len4 ≤ 1048576 := (by omega); clear hlen4; rw [List.nil_append] at ho4; have HO4 := Lib.hid (ho4.wide (lo2 := wr.heap.size) (by simp <;> omega) (Nat.le_refl _) (Nat.le_refl _)); have HX4 := Lib.hid ((((sees_one HXW.out wr 3).alloc (.cells #[] 3)).below (Below.refl _ _).drew).moved hm4 (fun y hy => by cases hy; simp <;> omega)); have G4 := Lib.hid (below_moved ((((Below.refl wr.heap.size wr).alloc (Nat.le_refl _) _).alloc (by simp) _).drew) hm4 (Nat.le_refl _) (by simp <;> omega)); clear ho4 hm4))
            all_goals
              go_wp2
              go_roundw
              case rel => exact ⟨jj + 1, _, _, _, by omega, by have h := seenK12_len nd nx fl (jj + 1); omega, rfl, by go_num, rfl, HO6.out.someA (HPOS.out), HO6.out.wide (by omega) (Nat.le_refl _) (Nat.le_refl _), HB.out.trans (G6.out.mono hsz)⟩
              case measure => simp [intOf]; omega
    · obtain rfl : jj = lf := by omega
      go_wp2
      go_ret
      have ho := HO1.out
      exact ⟨_, _, _, rfl, by unfold seenN; rw [HFL.out]; exact ho.wide (by omega) (Nat.le_refl _) (Nat.le_refl _), HBV.out.trans (HB1.out.mono HBV.out.size)⟩
end Go.Proofs.Ytgninjdnfidpcaa
