/- AddressesOf and SurelyApart, the model's. -/
import Derived.Test.YtgninjdnfidpcaaAlO
import Derived.Test.YtgninjdnfidpcaaInsW
namespace Go.Proofs.Ytgninjdnfidpcaa
open Go.RowKit
set_option maxRecDepth 20000 in
set_option maxHeartbeats 6400000 in
theorem specAddr_any (W : World) (a : Option Addr) (len cap : Nat) (xs : List (Int × Int × Int)) (hl : len ≤ 1048576) (hs : SeesY W a len xs) :
    Calls Try.prog 42 #[.slice a len cap] W (Made .i64 3 (addrV xs) W) := by
  have hfit := hs.2.1
  obtain ⟨zs, hzs⟩ : ∃ zs, zs = xs.map (·.1) := ⟨_, rfl⟩
  have hzl : zs.length = len := by rw [hzs, List.length_map]; exact hs.1
  have HXL : Hid (xs.length = len) := Lib.hid hs.1
  subst hzl
  have HZ : Hid (∀ j, j < zs.length → zs.getD j 0 = (rep xs j).1) := Lib.hid (fun j hj => by
    have hjx : j < xs.length := by rw [HXL.out]; exact hj
    rw [hzs]; simp [rep, List.getD, hjx])
  have HADD : Hid (insAll zs [] = addrV xs) := Lib.hid (by rw [hzs]; rfl)
  have HFIT := Lib.hid hfit
  have HS := Lib.hid hs
  have HA0 : Hid (([] : List Int).length + zs.length ≤ 1048576) := Lib.hid (by simp; exact hl)
  clear hs hzs hfit
  obtain ⟨i0, hi, hz0, hz1, hz2⟩ := info_parts info_i64
  go_enter Try.func42, Try.ntmps42
  go_wp2_with fail
  go_loopw [3, 4, 5, 6] (fun v j _ _ wr => ∃ (jj : Nat) (a' : Option Addr) (l' c' : Nat), jj ≤ zs.length ∧ l' ≤ 1048576 ∧ (insAll (zs.take jj) ([] : List Int)).length = l' ∧ j = .int .i64 jj ∧ v = .slice a' l' c' ∧ (∃ g, a' = some ⟨g, 0, none⟩) ∧ Own .i64 3 wr W.heap.size wr.heap.size a' l' c' (insAll (zs.take jj) ([] : List Int)) ∧ Below W.heap.size W wr) (fun _ j _ _ _ => zs.length - (intOf j).toNat)
  case atStart => exact ⟨0, _, _, _, Nat.zero_le _, Nat.zero_le _, rfl, rfl, rfl, ⟨_, rfl⟩, own_nilB (w := W) rfl, below_new8 _ _⟩
  case round =>
    obtain ⟨jj, a', l', c', hjj, hl', hln, rfl, rfl, ⟨g, rfl⟩, ho, hb⟩ := hrel
    obtain ⟨Vi, rfl⟩ : ∃ Vi, Vi = wr := ⟨_, rfl⟩
    have HO := Lib.hid ho
    have HB := Lib.hid hb
    have HLN := Lib.hid hln
    have hsz := hb.size
    clear ho hb hln
    by_cases hlt2 : jj < zs.length
    · obtain ⟨b2, o2, rfl, hb20, hcs⟩ := HS.out.at hlt2
      have hx := (HB.out.cell (p := ⟨b2, o2 + jj * 3, none⟩) hb20).trans (hcs jj hlt2).1
      obtain ⟨x, hxe⟩ : ∃ x, x = zs.getD jj 0 := ⟨_, rfl⟩
      rw [← HZ.out jj hlt2, ← hxe] at hx
      have hxw : (Lit.int .i64 x).wf = true := by rw [hxe, HZ.out jj hlt2]; exact (HFIT.out _ (rep_mem (by rw [HXL.out]; exact hlt2))).1
      have HJ := Lib.hid hlt2
      have HX : Hid (zs.getD jj 0 = x) := Lib.hid hxe.symm
      obtain ⟨acc, hac⟩ : ∃ acc, acc = insAll (zs.take jj) ([] : List Int) := ⟨_, rfl⟩
      have HAC : Hid (insAll (zs.take jj) ([] : List Int) = acc) := Lib.hid hac.symm
      rw [← hac] at HO HLN
      have HXW := Lib.hid hxw
      clear hcs hxe hxw hac
      go_wp2_with fail
      go_loopw [6] (fun p w => ∃ pp : Nat, pp ≤ l' ∧ p = .int .i64 pp ∧ Hid (∀ r, r < pp → acc.getD r 0 < x) ∧ w = Vi) (fun p _ => l' - (intOf p).toNat)
      case atStart => exact ⟨0, Nat.zero_le _, rfl, Lib.hid (fun r hr => by omega), rfl⟩
      case round =>
        obtain ⟨pp, hpp, rfl, HLT, rfl⟩ := hrel
        have HOA := HO
        have HPA : Hid (pp ≤ acc.length ∧ (∀ r, r < pp → acc.getD r 0 < x) ∧ True) := Lib.hid ⟨by rw [HLN.out]; exact hpp, HLT.out, trivial⟩
        have HT : Hid (Sees .i64 wr (some ⟨g, 0, none⟩) pp (acc.take pp)) := Lib.hid (HO.out.sees.cut8 hpp)
        have HN2 : Hid (Own .i64 3 ((wr.alloc (.cells #[.int .i64 x] 3)).alloc (.cells #[] 3)) (wr.heap.size + 1) (wr.heap.size + 1 + 1) (some ⟨wr.heap.size + 1, 0, none⟩) 0 0 []) := Lib.hid (by
          have h := own_nil .i64 3 (wr.alloc (.cells #[.int .i64 x] 3))
          rw [World.size_alloc] at h
          exact h)
        have HS2 : Hid (Sees .i64 ((wr.alloc (.cells #[] 3)).alloc (.cells #[.int .i64 x] 3)) (some ⟨wr.heap.size + 1, 0, none⟩) 1 [x]) := Lib.hid (by
          have h := sees_one HXW.out (wr.alloc (.cells #[] 3)) 3
          rw [World.size_alloc] at h
          exact h)
        have hcl := HO.out.cap
        by_cases hp : pp < l'
        · have hy0 := HO.out.cell0 hp
          obtain ⟨y, hy⟩ : ∃ y, y = acc.getD pp 0 := ⟨_, rfl⟩
          rw [← hy] at hy0
          have HY := Lib.hid hy
          clear hy
          by_cases hyx : y < x
          · have HLT2 : Hid (∀ r, r < pp + 1 → acc.getD r 0 < x) := Lib.hid (fun r hr => by
              by_cases hrp : r < pp
              · exact HLT.out r hrp
              · obtain rfl : r = pp := by omega
                rw [← HY.out]; exact hyx)
            clear HT HN2 HS2
            go_wp2
            go_roundw
            case rel => exact ⟨pp + 1, by omega, by go_num, HLT2, trivial⟩
            case measure => simp [intOf]; omega
          · have hyx2 : ¬ y < x := hyx
            by_cases hye : y = x
            · have HE : Hid (insAll (zs.take (jj + 1)) ([] : List Int) = acc) := Lib.hid (by rw [insAll_next HJ.out, HX.out, HAC.out, insU_at HPA.out.1 HPA.out.2.1 (fun _ => by rw [← HY.out]; exact hyx), if_pos ⟨by rw [HLN.out]; exact hp, by rw [← HY.out]; exact hye⟩])
              subst hye
              clear HT HN2 HS2
              go_wp2
              go_roundw
              case rel => exact ⟨jj + 1, _, _, _, by omega, hl', by rw [HE.out]; exact HLN.out, by go_num, rfl, ⟨_, rfl⟩, by rw [HE.out]; exact HO.out, HB.out⟩
              case measure => simp [intOf]; omega
            · have hppl : ¬ (pp : Int) = (l' : Int) := by omega
              have hne : (y != x) = true := by simp [hye]
              have HZ6 : Hid (acc.take pp ++ [x] ++ acc.drop pp = insAll (zs.take (jj + 1)) ([] : List Int)) := Lib.hid (by rw [insAll_next HJ.out, HX.out, HAC.out, insU_at HPA.out.1 HPA.out.2.1 (fun _ => by rw [← HY.out]; exact hyx), if_neg (fun h => hye (by rw [HY.out]; exact h.2))])
              have ip0 : (0 : Int) ≤ (pp : Int) := by omega
              have ip1 : (pp : Int) ≤ (l' : Int) := by omega
              have ip2 : (l' : Int) ≤ (c' : Int) := by omega
              have ip3 : (pp : Int) ≤ (c' : Int) := by omega
              have HD : Hid (Sees .i64 wr (if c' = pp then some ⟨g, 0, none⟩ else some ⟨g, pp, none⟩) (l' - pp) (acc.drop pp)) := Lib.hid (by
                split
                · have h := HOA.out.sees.drop0 HPA.out.1 (by have := HOA.out.cap; omega)
                  exact h
                · have h := HOA.out.sees.drop1 HPA.out.1
                  rw [Nat.zero_add] at h
                  exact h)
              go_wp2_with fail
              go_region_held3 (fun _ => True) (trivial) (first
                | (refine step_append_sees rfl _ _ 24 rfl 3 i0 .i64 8 Try.underlying24 hi hz0 hz1 hz2 _ _ _ _ rfl _ _ HO5.out _ _ _ (acc.drop pp) rfl (HD.out.below G5.out) (by unfold maxLen; omega) (by omega) (by have := G5.out.size; omega) ?_; intro a6 len6 cap6 w6 hlen6 ho6 hm6; clear hlen6; rw [HZ6.out] at ho6; have hl6 := ho6.1; subst hl6; have HO6 := Lib.hid ho6; have G6 := Lib.hid (below_moved G5.out hm6 (Nat.le_refl _) (Nat.le_refl _)); clear ho6 hm6)
                | (refine step_append_sees rfl _ _ 24 rfl 3 i0 .i64 8 Try.underlying24 hi hz0 hz1 hz2 _ _ _ _ rfl _ _ HO4.out _ 1 1 [x] rfl HX4.out (by unfold maxLen; omega) (by omega) (by have := G4.out.size; simp; omega) ?_; intro a5 len5 cap5 w5 hlen5 ho5 hm5; have hl5 : len5 ≤ 1048577 := (by omega); clear hlen5; have HO5 := Lib.hid ho5; have G5 := Lib.hid (below_moved (G4.out) hm5 (Nat.le_refl _) (Nat.le_refl _)); clear ho5 hm5)
                | (refine step_append_sees rfl _ _ 24 rfl 3 i0 .i64 8 Try.underlying24 hi hz0 hz1 hz2 _ _ _ _ rfl _ _ (HO4.out.alloc _) _ 1 1 [x] rfl (sees_one HXW.out _ _) (by unfold maxLen; omega) (by omega) (by have := G4.out.size; simp; omega) ?_; intro a5 len5 cap5 w5 hlen5 ho5 hm5; have hl5 : len5 ≤ 1048577 := (by omega); clear hlen5; have HO5 := Lib.hid ho5; have G5 := Lib.hid (below_moved (G4.out.alloc G4.out.size _) hm5 (Nat.le_refl _) (Nat.le_refl _)); clear ho5 hm5)
                | (refine step_append_sees rfl _ _ 24 rfl 3 i0 .i64 8 Try.underlying24 hi hz0 hz1 hz2 _ _ _ _ rfl _ _ ((own_nil _ _ _).below (Below.refl _ _).drew) _ _ _ (acc.take pp) rfl ((HT.out.alloc _).below (Below.refl _ _).drew) (by unfold maxLen; omega) (by omega) (by simp <;> omega) ?_; intro a4 len4 cap4 w4 hlen4 ho4 hm4; have hl4 : len4 ≤ 1048576 := (by omega); clear hlen4; rw [List.nil_append] at ho4; have HO4 := Lib.hid (ho4.wide (lo2 := wr.heap.size) (by simp <;> omega) (Nat.le_refl _) (Nat.le_refl _)); have G4 := Lib.hid (below_moved (((Below.refl wr.heap.size wr).alloc (Nat.le_refl _) _).drew) hm4 (Nat.le_refl _) (by simp <;> omega)); clear ho4 hm4)
                | (refine step_append_sees rfl _ _ 24 rfl 3 i0 .i64 8 Try.underlying24 hi hz0 hz1 hz2 _ _ _ _ rfl _ _ (((own_nil .i64 3 wr).alloc (.cells #[.int .i64 x] 3)).below (Below.refl _ _).drew) _ _ _ (acc.take pp) rfl (((HT.out.alloc (.cells #[] 3)).alloc (.cells #[.int .i64 x] 3)).below (Below.refl _ _).drew) (by unfold maxLen; omega) (by omega) (by simp <;> omega) ?_; intro a4 len4 cap4 w4 hlen4 ho4 hm4; have hl4 : len4 ≤ 1048576 := (by omega); clear hlen4; rw [List.nil_append] at ho4; have HO4 := Lib.hid (ho4.wide (lo2 := wr.heap.size) (by simp <;> omega) (Nat.le_refl _) (Nat.le_refl _)); have HX4 := Lib.hid ((HS2.out.below (Below.refl _ _).drew).moved hm4 (fun y hy => by cases hy; simp <;> omega)); have G4 := Lib.hid (below_moved ((((Below.refl wr.heap.size wr).alloc (Nat.le_refl _) _).alloc (by simp) _).drew) hm4 (Nat.le_refl _) (by simp <;> omega)); clear ho4 hm4)
                | (refine step_append_sees rfl _ _ 24 rfl 3 i0 .i64 8 Try.underlying24 hi hz0 hz1 hz2 _ _ _ _ rfl _ _ (HN2.out.below (Below.refl _ _).drew) _ _ _ (acc.take pp) rfl (((HT.out.alloc (.cells #[.int .i64 x] 3)).alloc (.cells #[] 3)).below (Below.refl _ _).drew) (by unfold maxLen; omega) (by omega) (by simp <;> omega) ?_; intro a4 len4 cap4 w4 hlen4 ho4 hm4; have hl4 : len4 ≤ 1048576 := (by omega); clear hlen4; rw [List.nil_append] at ho4; have HO4 := Lib.hid (ho4.wide (lo2 := wr.heap.size) (by simp <;> omega) (Nat.le_refl _) (Nat.le_refl _)); have HX4 := Lib.hid ((((sees_one HXW.out wr 3).alloc (.cells #[] 3)).below (Below.refl _ _).drew).moved hm4 (fun y hy => by cases hy; simp <;> omega)); have G4 := Lib.hid (below_moved ((((Below.refl wr.heap.size wr).alloc (Nat.le_refl _) _).alloc (by simp) _).drew) hm4 (Nat.le_refl _) (by simp <;> omega)); clear ho4 hm4))
              all_goals
                go_wp2
                go_roundw
                case rel => exact ⟨jj + 1, _, _, _, by omega, by have h := insAll_len (zs.take (jj + 1)) ([] : List Int); rw [List.length_take] at h; have := HA0.out; omega, rfl, by go_num, rfl, HO6.out.someA (insAll_pos hlt2), HO6.out.wide (by omega) (Nat.le_refl _) (Nat.le_refl _), HB.out.trans (G6.out.mono hsz)⟩
                case measure => simp [intOf]; omega
        · obtain rfl : pp = l' := by omega
          have HZ6 : Hid (acc.take pp ++ [x] ++ acc.drop pp = insAll (zs.take (jj + 1)) ([] : List Int)) := Lib.hid (by rw [insAll_next HJ.out, HX.out, HAC.out, insU_at HPA.out.1 HPA.out.2.1 (fun h => absurd h (by rw [HLN.out]; omega)), if_neg (fun h => absurd h.1 (by rw [HLN.out]; omega))])
          have ip0 : (0 : Int) ≤ (pp : Int) := by omega
          have ip1 : (pp : Int) ≤ (pp : Int) := by omega
          have ip2 : (pp : Int) ≤ (c' : Int) := by omega
          have ip3 : (pp : Int) ≤ (c' : Int) := by omega
          have HD : Hid (Sees .i64 wr (if c' = pp then some ⟨g, 0, none⟩ else some ⟨g, pp, none⟩) 0 (acc.drop pp)) := Lib.hid (by
            split
            · have h := HOA.out.sees.drop0 HPA.out.1 (by have := HOA.out.cap; omega)
              rw [Nat.sub_self] at h
              exact h
            · have h := HOA.out.sees.drop1 HPA.out.1
              rw [Nat.zero_add, Nat.sub_self] at h
              exact h)
          go_wp2_with fail
          go_region_held3 (fun _ => True) (trivial) (first
            | (refine step_append_sees rfl _ _ 24 rfl 3 i0 .i64 8 Try.underlying24 hi hz0 hz1 hz2 _ _ _ _ rfl _ _ HO5.out _ _ _ (acc.drop pp) rfl (HD.out.below G5.out) (by unfold maxLen; omega) (by omega) (by have := G5.out.size; omega) ?_; intro a6 len6 cap6 w6 hlen6 ho6 hm6; clear hlen6; rw [HZ6.out] at ho6; have hl6 := ho6.1; subst hl6; have HO6 := Lib.hid ho6; have G6 := Lib.hid (below_moved G5.out hm6 (Nat.le_refl _) (Nat.le_refl _)); clear ho6 hm6)
            | (refine step_append_sees rfl _ _ 24 rfl 3 i0 .i64 8 Try.underlying24 hi hz0 hz1 hz2 _ _ _ _ rfl _ _ HO4.out _ 1 1 [x] rfl HX4.out (by unfold maxLen; omega) (by omega) (by have := G4.out.size; simp; omega) ?_; intro a5 len5 cap5 w5 hlen5 ho5 hm5; have hl5 : len5 ≤ 1048577 := (by omega); clear hlen5; have HO5 := Lib.hid ho5; have G5 := Lib.hid (below_moved (G4.out) hm5 (Nat.le_refl _) (Nat.le_refl _)); clear ho5 hm5)
            | (refine step_append_sees rfl _ _ 24 rfl 3 i0 .i64 8 Try.underlying24 hi hz0 hz1 hz2 _ _ _ _ rfl _ _ (HO4.out.alloc _) _ 1 1 [x] rfl (sees_one HXW.out _ _) (by unfold maxLen; omega) (by omega) (by have := G4.out.size; simp; omega) ?_; intro a5 len5 cap5 w5 hlen5 ho5 hm5; have hl5 : len5 ≤ 1048577 := (by omega); clear hlen5; have HO5 := Lib.hid ho5; have G5 := Lib.hid (below_moved (G4.out.alloc G4.out.size _) hm5 (Nat.le_refl _) (Nat.le_refl _)); clear ho5 hm5)
            | (refine step_append_sees rfl _ _ 24 rfl 3 i0 .i64 8 Try.underlying24 hi hz0 hz1 hz2 _ _ _ _ rfl _ _ ((own_nil _ _ _).below (Below.refl _ _).drew) _ _ _ (acc.take pp) rfl ((HT.out.alloc _).below (Below.refl _ _).drew) (by unfold maxLen; omega) (by omega) (by simp <;> omega) ?_; intro a4 len4 cap4 w4 hlen4 ho4 hm4; have hl4 : len4 ≤ 1048576 := (by omega); clear hlen4; rw [List.nil_append] at ho4; have HO4 := Lib.hid (ho4.wide (lo2 := wr.heap.size) (by simp <;> omega) (Nat.le_refl _) (Nat.le_refl _)); have G4 := Lib.hid (below_moved (((Below.refl wr.heap.size wr).alloc (Nat.le_refl _) _).drew) hm4 (Nat.le_refl _) (by simp <;> omega)); clear ho4 hm4)
            | (refine step_append_sees rfl _ _ 24 rfl 3 i0 .i64 8 Try.underlying24 hi hz0 hz1 hz2 _ _ _ _ rfl _ _ (((own_nil .i64 3 wr).alloc (.cells #[.int .i64 x] 3)).below (Below.refl _ _).drew) _ _ _ (acc.take pp) rfl (((HT.out.alloc (.cells #[] 3)).alloc (.cells #[.int .i64 x] 3)).below (Below.refl _ _).drew) (by unfold maxLen; omega) (by omega) (by simp <;> omega) ?_; intro a4 len4 cap4 w4 hlen4 ho4 hm4; have hl4 : len4 ≤ 1048576 := (by omega); clear hlen4; rw [List.nil_append] at ho4; have HO4 := Lib.hid (ho4.wide (lo2 := wr.heap.size) (by simp <;> omega) (Nat.le_refl _) (Nat.le_refl _)); have HX4 := Lib.hid ((HS2.out.below (Below.refl _ _).drew).moved hm4 (fun y hy => by cases hy; simp <;> omega)); have G4 := Lib.hid (below_moved ((((Below.refl wr.heap.size wr).alloc (Nat.le_refl _) _).alloc (by simp) _).drew) hm4 (Nat.le_refl _) (by simp <;> omega)); clear ho4 hm4)
            | (refine step_append_sees rfl _ _ 24 rfl 3 i0 .i64 8 Try.underlying24 hi hz0 hz1 hz2 _ _ _ _ rfl _ _ (HN2.out.below (Below.refl _ _).drew) _ _ _ (acc.take pp) rfl (((HT.out.alloc (.cells #[.int .i64 x] 3)).alloc (.cells #[] 3)).below (Below.refl _ _).drew) (by unfold maxLen; omega) (by omega) (by simp <;> omega) ?_; intro a4 len4 cap4 w4 hlen4 ho4 hm4; have hl4 : len4 ≤ 1048576 := (by omega); clear hlen4; rw [List.nil_append] at ho4; have HO4 := Lib.hid (ho4.wide (lo2 := wr.heap.size) (by simp <;> omega) (Nat.le_refl _) (Nat.le_refl _)); have HX4 := Lib.hid ((((sees_one HXW.out wr 3).alloc (.cells #[] 3)).below (Below.refl _ _).drew).moved hm4 (fun y hy => by cases hy; simp <;> omega)); have G4 := Lib.hid (below_moved ((((Below.refl wr.heap.size wr).alloc (Nat.le_refl _) _).alloc (by simp) _).drew) hm4 (Nat.le_refl _) (by simp <;> omega)); clear ho4 hm4))
          all_goals
            go_wp2
            go_roundw
            case rel => exact ⟨jj + 1, _, _, _, by omega, by have h := insAll_len (zs.take (jj + 1)) ([] : List Int); rw [List.length_take] at h; have := HA0.out; omega, rfl, by go_num, rfl, HO6.out.someA (insAll_pos hlt2), HO6.out.wide (by omega) (Nat.le_refl _) (Nat.le_refl _), HB.out.trans (G6.out.mono hsz)⟩
            case measure => simp [intOf]; omega
    · obtain rfl : jj = zs.length := by omega
      have HE : Hid (insAll (zs.take zs.length) ([] : List Int) = addrV xs) := Lib.hid (by rw [List.take_length]; exact HADD.out)
      go_wp2
      go_ret
      have ho := HO.out
      rw [HE.out] at ho
      exact ⟨_, _, _, rfl, ho, HB.out⟩
theorem sees_two {x y : Int} (hx : (Lit.int .i64 x).wf = true) (hy : (Lit.int .i64 y).wf = true) (w : World) (t : TypeId) : Sees .i64 (w.alloc (.cells #[.int .i64 x, .int .i64 y] t)) (some ⟨w.heap.size, 0, none⟩) 2 [x, y] := by
  refine ⟨rfl, fun n hn => ?_, .inr ⟨_, _, rfl, by simp, fun j hj => ?_⟩⟩
  · simp only [List.mem_cons, List.not_mem_nil, or_false] at hn
    rcases hn with rfl | rfl
    · exact hx
    · exact hy
  · have h2 : j = 0 ∨ j = 1 := by omega
    rcases h2 with rfl | rfl <;> simp
end Go.Proofs.Ytgninjdnfidpcaa
