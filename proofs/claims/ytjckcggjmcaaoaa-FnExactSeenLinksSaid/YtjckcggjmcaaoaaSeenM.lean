/- SeenLinks, the model's. -/
import Derived.Test.YtjckcggjmcaaoaaSeenF
import Derived.Test.YtjckcggjmcaaoaaStepSl
namespace Go.Proofs.Ytjckcggjmcaaoaa
open Go.RowKit
theorem own_nilB {k : IntKind} {e : TypeId} {w : World} {B : Nat} (h : B = w.heap.size) : Own k e (w.alloc (.cells #[] e)) w.heap.size (w.alloc (.cells #[] e)).heap.size (some ⟨B, 0, none⟩) 0 0 [] := by
  subst h
  exact (own_nil k e w).wide (Nat.le_refl _) (own_nil k e w).2.2.1 (Nat.le_refl _)
theorem below_new8 (W : World) (o : Obj) : Below W.heap.size W (W.alloc o) := (Below.refl _ _).alloc (Nat.le_refl _) _
theorem Sees.spot8 {k : IntKind} {w : World} {a : Option Addr} {len : Nat} {zs : List Int} (h : Sees k w a len zs) (h0 : 0 < len) : ∃ b off, a = some ⟨b, off, none⟩ ∧ b < w.heap.size ∧ ∀ j, j < len → w.cell? ⟨b, off + j, none⟩ = some (.int k (zs.getD j 0)) := by
  rcases h.2.2 with h1 | h1
  · omega
  · exact h1
theorem Sees.cut8 {k : IntKind} {w : World} {a : Option Addr} {len m : Nat} {zs : List Int} (h : Sees k w a len zs) (hm : m ≤ len) : Sees k w a m (zs.take m) := by
  refine ⟨by rw [List.length_take, h.1]; omega, fun n hn => h.2.1 n (List.mem_of_mem_take hn), ?_⟩
  rcases h.2.2 with h0 | ⟨b, off, ha, hb, hc⟩
  · exact .inl (by omega)
  · exact .inr ⟨b, off, ha, hb, fun j hj => by rw [hc j (by omega)]; simp [List.getD, hj]⟩
theorem Sees.drop1 {k : IntKind} {w : World} {g off len p : Nat} {zs : List Int} (h : Sees k w (some ⟨g, off, none⟩) len zs) (hp : p ≤ zs.length) : Sees k w (some ⟨g, off + p, none⟩) (len - p) (zs.drop p) := by
  have hl := h.1
  refine ⟨by rw [List.length_drop, h.1], fun n hn => h.2.1 n (List.mem_of_mem_drop hn), ?_⟩
  rcases h.2.2 with h0 | ⟨b, o, ha, hb, hc⟩
  · exact .inl (by omega)
  · cases ha
    exact .inr ⟨g, off + p, rfl, hb, fun j hj => by rw [Nat.add_assoc, hc (p + j) (by omega)]; simp [List.getD]⟩
theorem Sees.drop0 {k : IntKind} {w : World} {a : Option Addr} {len p : Nat} {zs : List Int} (h : Sees k w a len zs) (hp : p ≤ zs.length) (hpl : len ≤ p) : Sees k w a (len - p) (zs.drop p) := by
  have hl := h.1
  exact ⟨by rw [List.length_drop, h.1], fun n hn => h.2.1 n (List.mem_of_mem_drop hn), .inl (by omega)⟩
theorem Own.cell0 {k : IntKind} {e : TypeId} {w : World} {lo hi g len cap : Nat} {zs : List Int} (h : Own k e w lo hi (some ⟨g, 0, none⟩) len cap zs) {j : Nat} (hj : j < len) : w.cell? ⟨g, j, none⟩ = some (.int k (zs.getD j 0)) := by
  rcases h.spot with ⟨h0, _⟩ | ⟨g', hg, _, _, _, _, hc, _⟩
  · cases h0
  · cases hg; exact hc j hj
theorem Own.someA {k : IntKind} {e : TypeId} {w : World} {lo hi len cap : Nat} {a : Option Addr} {zs : List Int} (h : Own k e w lo hi a len cap zs) (hp : 0 < zs.length) : ∃ g, a = some ⟨g, 0, none⟩ := by
  rcases h.spot with ⟨_, _, _, h0⟩ | ⟨g', hg, _⟩
  · rw [h0] at hp; cases hp
  · exact ⟨g', hg⟩
theorem insAll_pos {zs acc : List Int} {jj : Nat} (h : jj < zs.length) : 0 < (insAll (zs.take (jj + 1)) acc).length := by
  have : zs.getD 0 0 ∈ insAll (zs.take (jj + 1)) acc := insAll_mem.2 (.inl (by
    cases zs with
    | nil => simp at h
    | cons z r => simp [List.take]))
  exact List.length_pos_of_mem this
set_option maxRecDepth 20000 in
set_option maxHeartbeats 6400000 in
theorem specSeen_any (W : World) (a : Option Addr) (len cap : Nat) (ps : List Prb) (hsm : SmallM (pathsOf ps)) (hs : SeesQ W a len ps) :
    Calls Try.prog 15 #[.slice a len cap] W (Made .i64 3 (seenV ps) W) := by
  have HS := Lib.hid hs
  have HL := Lib.hid hs.1
  have HM := Lib.hid hsm
  have hl : len ≤ 1048576 := by unfold SmallM at hsm; rw [pathsOf_len] at hsm; have := hs.1; omega
  clear hs hsm
  obtain ⟨i0, hi, hz0, hz1, hz2⟩ := info_parts info_i64
  go_enter Try.func15, Try.ntmps15
  go_wp2_with fail
  go_loopw [3, 4, 5, 6, 7] (fun v i _ _ _ wr => ∃ (k : Nat) (a' : Option Addr) (l' c' : Nat), k ≤ len ∧ (seenK ps k).length = l' ∧ i = .int .i64 k ∧ v = .slice a' l' c' ∧ (∃ g, a' = some ⟨g, 0, none⟩) ∧ Own .i64 3 wr W.heap.size wr.heap.size a' l' c' (seenK ps k) ∧ Below W.heap.size W wr) (fun _ i _ _ _ _ => len - (intOf i).toNat)
  case atStart => exact ⟨0, _, _, _, Nat.zero_le _, rfl, rfl, rfl, ⟨_, rfl⟩, own_nilB (w := W) rfl, below_new8 _ _⟩
  case round =>
    obtain ⟨k, a', l', c', hk, hln, rfl, rfl, ⟨g, rfl⟩, ho, hb⟩ := hrel
    obtain ⟨Vr, rfl⟩ : ∃ Vr, Vr = wr := ⟨_, rfl⟩
    have HO := Lib.hid ho
    have HB := Lib.hid hb
    have HLN := Lib.hid hln
    by_cases hlt : k < len
    · have hkm : k < ps.length := by rw [HL.out]; exact hlt
      obtain ⟨b, off, ar, cr, rfl, hbl, hc0, hc1, hc2, hle, hcm, hsr⟩ := HS.out.2.2 k hlt
      obtain ⟨zs, hzs⟩ : ∃ zs, zs = (prb ps k).2.2 := ⟨_, rfl⟩
      obtain ⟨acc0, hacc⟩ : ∃ acc, acc = seenK ps k := ⟨_, rfl⟩
      rw [← hzs] at hc2 hle hsr
      have hbd : tot (pathsOf ps) k + zs.length ≤ 1048576 := by
        have h := HM.out.row (r := k) (by rw [pathsOf_len]; exact hkm)
        rw [pathsOf_row hkm, ← hzs] at h
        exact h
      have HA0 : Hid (acc0.length + zs.length ≤ 1048576) := Lib.hid (by have := seenK_len ps k; rw [hacc]; omega)
      have HK : Hid (seenK ps (k + 1) = insAll zs acc0) := Lib.hid (by rw [hacc, hzs]; rfl)
      have HR := Lib.hid hsr
      have HC2 := Lib.hid hc2
      have hzl : zs.length ≤ 1048576 := by omega
      rw [← hacc] at HO HLN
      clear hzs hacc hc0 hc1 hc2 hle hcm hsr hln ho hb hbd
      go_wp2_with fail
      go_loopw [3, 5, 6, 7] (fun v j _ _ wr => ∃ (jj : Nat) (a' : Option Addr) (l' c' : Nat), jj ≤ zs.length ∧ l' ≤ 1048576 ∧ (insAll (zs.take jj) acc0).length = l' ∧ j = .int .i64 jj ∧ v = .slice a' l' c' ∧ (∃ g, a' = some ⟨g, 0, none⟩) ∧ Own .i64 3 wr W.heap.size wr.heap.size a' l' c' (insAll (zs.take jj) acc0) ∧ Below W.heap.size W wr) (fun _ j _ _ _ => zs.length - (intOf j).toNat)
      case atStart => exact ⟨0, _, _, _, Nat.zero_le _, by have h1 := HA0.out; have h2 := HLN.out; omega, HLN.out, rfl, rfl, ⟨_, rfl⟩, HO.out, HB.out⟩
      case round =>
        clear HO HB HLN
        obtain ⟨jj, a', l', c', hjj, hl', hln, rfl, rfl, ⟨g, rfl⟩, ho, hb⟩ := hrel
        obtain ⟨Vi, rfl⟩ : ∃ Vi, Vi = wr := ⟨_, rfl⟩
        have HO := Lib.hid ho
        have HB := Lib.hid hb
        have HLN := Lib.hid hln
        have hsz := hb.size
        have hw2 := (hb.cell (p := ⟨b, off + k * 3 + 2, none⟩) hbl).trans HC2.out
        clear ho hb hln
        by_cases hlt2 : jj < zs.length
        · obtain ⟨b2, o2, rfl, hb20, hcs⟩ := HR.out.spot8 (by omega)
          have hx := (HB.out.cell (p := ⟨b2, o2 + jj, none⟩) hb20).trans (hcs jj hlt2)
          obtain ⟨x, hxe⟩ : ∃ x, x = zs.getD jj 0 := ⟨_, rfl⟩
          rw [← hxe] at hx
          have hxw : (Lit.int .i64 x).wf = true := by rw [hxe]; exact HR.out.2.1 _ (getD_mem hlt2)
          have HJ := Lib.hid hlt2
          have HX : Hid (zs.getD jj 0 = x) := Lib.hid hxe.symm
          obtain ⟨acc, hac⟩ : ∃ acc, acc = insAll (zs.take jj) acc0 := ⟨_, rfl⟩
          have HAC : Hid (insAll (zs.take jj) acc0 = acc) := Lib.hid hac.symm
          rw [← hac] at HO HLN
          have HXW := Lib.hid hxw
          clear hcs hxe hxw hac
          go_wp2_with fail
          go_loopw [7] (fun p w => ∃ pp : Nat, pp ≤ l' ∧ p = .int .i64 pp ∧ Hid (∀ r, r < pp → acc.getD r 0 < x) ∧ w = Vi) (fun p _ => l' - (intOf p).toNat)
          case atStart => exact ⟨0, Nat.zero_le _, rfl, Lib.hid (fun r hr => by omega), rfl⟩
          case round =>
            obtain ⟨pp, hpp, rfl, HLT, rfl⟩ := hrel
            have HOA := HO
            have HPA : Hid (pp ≤ acc.length ∧ (∀ r, r < pp → acc.getD r 0 < x) ∧ True) := Lib.hid ⟨by rw [HLN.out]; exact hpp, HLT.out, trivial⟩
            have HT : Hid (Sees .i64 wr (some ⟨g, 0, none⟩) pp (acc.take pp)) := Lib.hid (HO.out.sees.cut8 hpp)
            have HN2 : Hid (Own .i64 3 ((wr.alloc (.cells #[.int .i64 x] 3)).alloc (.cells #[] 3)) (wr.heap.size + 1) (wr.heap.size + 1 + 1) (some ⟨wr.heap.size + 1, 0, none⟩) 0 0 []) := Lib.hid (by
              have h := own_nil .i64 3 (wr.alloc (.cells #[.int .i64 x] 3))
              rw [World.size_alloc] at h
              exact h)
            have HS2 : Hid (Sees .i64 ((wr.alloc (.cells #[] 3)).alloc (.cells #[.int .i64 x] 3)) (some ⟨wr.heap.size + 1, 0, none⟩) 1 [x]) := Lib.hid (by
              have h := sees_one HXW.out (wr.alloc (.cells #[] 3)) 3
              rw [World.size_alloc] at h
              exact h)
            have hcl := HO.out.cap
            by_cases hp : pp < l'
            · have hy0 := HO.out.cell0 hp
              obtain ⟨y, hy⟩ : ∃ y, y = acc.getD pp 0 := ⟨_, rfl⟩
              rw [← hy] at hy0
              have HY := Lib.hid hy
              clear hy
              by_cases hyx : y < x
              · have HLT2 : Hid (∀ r, r < pp + 1 → acc.getD r 0 < x) := Lib.hid (fun r hr => by
                  by_cases hrp : r < pp
                  · exact HLT.out r hrp
                  · obtain rfl : r = pp := by omega
                    rw [← HY.out]; exact hyx)
                clear HT HN2 HS2
                go_wp2
                go_roundw
                case rel => exact ⟨pp + 1, by omega, by go_num, HLT2, trivial⟩
                case measure => simp [intOf]; omega
              · have hyx2 : ¬ y < x := hyx
                by_cases hye : y = x
                · have HE : Hid (insAll (zs.take (jj + 1)) acc0 = acc) := Lib.hid (by rw [insAll_next HJ.out, HX.out, HAC.out, insU_at HPA.out.1 HPA.out.2.1 (fun _ => by rw [← HY.out]; exact hyx), if_pos ⟨by rw [HLN.out]; exact hp, by rw [← HY.out]; exact hye⟩])
                  subst hye
                  clear HT HN2 HS2
                  go_wp2
                  go_roundw
                  case rel => exact ⟨jj + 1, _, _, _, by omega, hl', by rw [HE.out]; exact HLN.out, by go_num, rfl, ⟨_, rfl⟩, by rw [HE.out]; exact HO.out, HB.out⟩
                  case measure => simp [intOf]; omega
                · have hppl : ¬ (pp : Int) = (l' : Int) := by omega
                  have hne : (y != x) = true := by simp [hye]
                  have HZ6 : Hid (acc.take pp ++ [x] ++ acc.drop pp = insAll (zs.take (jj + 1)) acc0) := Lib.hid (by rw [insAll_next HJ.out, HX.out, HAC.out, insU_at HPA.out.1 HPA.out.2.1 (fun _ => by rw [← HY.out]; exact hyx), if_neg (fun h => hye (by rw [HY.out]; exact h.2))])
                  have ip0 : (0 : Int) ≤ (pp : Int) := by omega
                  have ip1 : (pp : Int) ≤ (l' : Int) := by omega
                  have ip2 : (l' : Int) ≤ (c' : Int) := by omega
                  have ip3 : (pp : Int) ≤ (c' : Int) := by omega
                  have HD : Hid (Sees .i64 wr (if c' = pp then some ⟨g, 0, none⟩ else some ⟨g, pp, none⟩) (l' - pp) (acc.drop pp)) := Lib.hid (by
                    split
                    · have h := HOA.out.sees.drop0 HPA.out.1 (by have := HOA.out.cap; omega)
                      exact h
                    · have h := HOA.out.sees.drop1 HPA.out.1
                      rw [Nat.zero_add] at h
                      exact h)
                  go_wp2_with fail
                  go_region_held3 (fun _ => True) (trivial) (first
                    | (refine step_append_sees rfl _ _ 27 rfl 3 i0 .i64 8 Try.underlying27 hi hz0 hz1 hz2 _ _ _ _ rfl _ _ HO5.out _ _ _ (acc.drop pp) rfl (HD.out.below G5.out) (by unfold maxLen; omega) (by omega) (by have := G5.out.size; omega) ?_; intro a6 len6 cap6 w6 hlen6 ho6 hm6; clear hlen6; rw [HZ6.out] at ho6; have hl6 := ho6.1; subst hl6; have HO6 := Lib.hid ho6; have G6 := Lib.hid (below_moved G5.out hm6 (Nat.le_refl _) (Nat.le_refl _)); clear ho6 hm6)
                    | (refine step_append_sees rfl _ _ 27 rfl 3 i0 .i64 8 Try.underlying27 hi hz0 hz1 hz2 _ _ _ _ rfl _ _ HO4.out _ 1 1 [x] rfl HX4.out (by unfold maxLen; omega) (by omega) (by have := G4.out.size; simp; omega) ?_; intro a5 len5 cap5 w5 hlen5 ho5 hm5; have hl5 : len5 ≤ 1048577 := (by omega); clear hlen5; have HO5 := Lib.hid ho5; have G5 := Lib.hid (below_moved (G4.out) hm5 (Nat.le_refl _) (Nat.le_refl _)); clear ho5 hm5)
                    | (refine step_append_sees rfl _ _ 27 rfl 3 i0 .i64 8 Try.underlying27 hi hz0 hz1 hz2 _ _ _ _ rfl _ _ (HO4.out.alloc _) _ 1 1 [x] rfl (sees_one HXW.out _ _) (by unfold maxLen; omega) (by omega) (by have := G4.out.size; simp; omega) ?_; intro a5 len5 cap5 w5 hlen5 ho5 hm5; have hl5 : len5 ≤ 1048577 := (by omega); clear hlen5; have HO5 := Lib.hid ho5; have G5 := Lib.hid (below_moved (G4.out.alloc G4.out.size _) hm5 (Nat.le_refl _) (Nat.le_refl _)); clear ho5 hm5)
                    | (refine step_append_sees rfl _ _ 27 rfl 3 i0 .i64 8 Try.underlying27 hi hz0 hz1 hz2 _ _ _ _ rfl _ _ ((own_nil _ _ _).below (Below.refl _ _).drew) _ _ _ (acc.take pp) rfl ((HT.out.alloc _).below (Below.refl _ _).drew) (by unfold maxLen; omega) (by omega) (by simp <;> omega) ?_; intro a4 len4 cap4 w4 hlen4 ho4 hm4; have hl4 : len4 ≤ 1048576 := (by omega); clear hlen4; rw [List.nil_append] at ho4; have HO4 := Lib.hid (ho4.wide (lo2 := wr.heap.size) (by simp <;> omega) (Nat.le_refl _) (Nat.le_refl _)); have G4 := Lib.hid (below_moved (((Below.refl wr.heap.size wr).alloc (Nat.le_refl _) _).drew) hm4 (Nat.le_refl _) (by simp <;> omega)); clear ho4 hm4)
                    | (refine step_append_sees rfl _ _ 27 rfl 3 i0 .i64 8 Try.underlying27 hi hz0 hz1 hz2 _ _ _ _ rfl _ _ (((own_nil .i64 3 wr).alloc (.cells #[.int .i64 x] 3)).below (Below.refl _ _).drew) _ _ _ (acc.take pp) rfl (((HT.out.alloc (.cells #[] 3)).alloc (.cells #[.int .i64 x] 3)).below (Below.refl _ _).drew) (by unfold maxLen; omega) (by omega) (by simp <;> omega) ?_; intro a4 len4 cap4 w4 hlen4 ho4 hm4; have hl4 : len4 ≤ 1048576 := (by omega); clear hlen4; rw [List.nil_append] at ho4; have HO4 := Lib.hid (ho4.wide (lo2 := wr.heap.size) (by simp <;> omega) (Nat.le_refl _) (Nat.le_refl _)); have HX4 := Lib.hid ((HS2.out.below (Below.refl _ _).drew).moved hm4 (fun y hy => by cases hy; simp <;> omega)); have G4 := Lib.hid (below_moved ((((Below.refl wr.heap.size wr).alloc (Nat.le_refl _) _).alloc (by simp) _).drew) hm4 (Nat.le_refl _) (by simp <;> omega)); clear ho4 hm4)
                    | (refine step_append_sees rfl _ _ 27 rfl 3 i0 .i64 8 Try.underlying27 hi hz0 hz1 hz2 _ _ _ _ rfl _ _ (HN2.out.below (Below.refl _ _).drew) _ _ _ (acc.take pp) rfl (((HT.out.alloc (.cells #[.int .i64 x] 3)).alloc (.cells #[] 3)).below (Below.refl _ _).drew) (by unfold maxLen; omega) (by omega) (by simp <;> omega) ?_; intro a4 len4 cap4 w4 hlen4 ho4 hm4; have hl4 : len4 ≤ 1048576 := (by omega); clear hlen4; rw [List.nil_append] at ho4; have HO4 := Lib.hid (ho4.wide (lo2 := wr.heap.size) (by simp <;> omega) (Nat.le_refl _) (Nat.le_refl _)); have HX4 := Lib.hid ((((sees_one HXW.out wr 3).alloc (.cells #[] 3)).below (Below.refl _ _).drew).moved hm4 (fun y hy => by cases hy; simp <;> omega)); have G4 := Lib.hid (below_moved ((((Below.refl wr.heap.size wr).alloc (Nat.le_refl _) _).alloc (by simp) _).drew) hm4 (Nat.le_refl _) (by simp <;> omega)); clear ho4 hm4))
                  all_goals
                    go_wp2
                    go_roundw
                    case rel => exact ⟨jj + 1, _, _, _, by omega, by have h := insAll_len (zs.take (jj + 1)) acc0; rw [List.length_take] at h; have := HA0.out; omega, rfl, by go_num, rfl, HO6.out.someA (insAll_pos hlt2), HO6.out.wide (by omega) (Nat.le_refl _) (Nat.le_refl _), HB.out.trans (G6.out.mono hsz)⟩
                    case measure => simp [intOf]; omega
            · obtain rfl : pp = l' := by omega
              have HZ6 : Hid (acc.take pp ++ [x] ++ acc.drop pp = insAll (zs.take (jj + 1)) acc0) := Lib.hid (by rw [insAll_next HJ.out, HX.out, HAC.out, insU_at HPA.out.1 HPA.out.2.1 (fun h => absurd h (by rw [HLN.out]; omega)), if_neg (fun h => absurd h.1 (by rw [HLN.out]; omega))])
              have ip0 : (0 : Int) ≤ (pp : Int) := by omega
              have ip1 : (pp : Int) ≤ (pp : Int) := by omega
              have ip2 : (pp : Int) ≤ (c' : Int) := by omega
              have ip3 : (pp : Int) ≤ (c' : Int) := by omega
              have HD : Hid (Sees .i64 wr (if c' = pp then some ⟨g, 0, none⟩ else some ⟨g, pp, none⟩) 0 (acc.drop pp)) := Lib.hid (by
                split
                · have h := HOA.out.sees.drop0 HPA.out.1 (by have := HOA.out.cap; omega)
                  rw [Nat.sub_self] at h
                  exact h
                · have h := HOA.out.sees.drop1 HPA.out.1
                  rw [Nat.zero_add, Nat.sub_self] at h
                  exact h)
              go_wp2_with fail
              go_region_held3 (fun _ => True) (trivial) (first
                | (refine step_append_sees rfl _ _ 27 rfl 3 i0 .i64 8 Try.underlying27 hi hz0 hz1 hz2 _ _ _ _ rfl _ _ HO5.out _ _ _ (acc.drop pp) rfl (HD.out.below G5.out) (by unfold maxLen; omega) (by omega) (by have := G5.out.size; omega) ?_; intro a6 len6 cap6 w6 hlen6 ho6 hm6; clear hlen6; rw [HZ6.out] at ho6; have hl6 := ho6.1; subst hl6; have HO6 := Lib.hid ho6; have G6 := Lib.hid (below_moved G5.out hm6 (Nat.le_refl _) (Nat.le_refl _)); clear ho6 hm6)
                | (refine step_append_sees rfl _ _ 27 rfl 3 i0 .i64 8 Try.underlying27 hi hz0 hz1 hz2 _ _ _ _ rfl _ _ HO4.out _ 1 1 [x] rfl HX4.out (by unfold maxLen; omega) (by omega) (by have := G4.out.size; simp; omega) ?_; intro a5 len5 cap5 w5 hlen5 ho5 hm5; have hl5 : len5 ≤ 1048577 := (by omega); clear hlen5; have HO5 := Lib.hid ho5; have G5 := Lib.hid (below_moved (G4.out) hm5 (Nat.le_refl _) (Nat.le_refl _)); clear ho5 hm5)
                | (refine step_append_sees rfl _ _ 27 rfl 3 i0 .i64 8 Try.underlying27 hi hz0 hz1 hz2 _ _ _ _ rfl _ _ (HO4.out.alloc _) _ 1 1 [x] rfl (sees_one HXW.out _ _) (by unfold maxLen; omega) (by omega) (by have := G4.out.size; simp; omega) ?_; intro a5 len5 cap5 w5 hlen5 ho5 hm5; have hl5 : len5 ≤ 1048577 := (by omega); clear hlen5; have HO5 := Lib.hid ho5; have G5 := Lib.hid (below_moved (G4.out.alloc G4.out.size _) hm5 (Nat.le_refl _) (Nat.le_refl _)); clear ho5 hm5)
                | (refine step_append_sees rfl _ _ 27 rfl 3 i0 .i64 8 Try.underlying27 hi hz0 hz1 hz2 _ _ _ _ rfl _ _ ((own_nil _ _ _).below (Below.refl _ _).drew) _ _ _ (acc.take pp) rfl ((HT.out.alloc _).below (Below.refl _ _).drew) (by unfold maxLen; omega) (by omega) (by simp <;> omega) ?_; intro a4 len4 cap4 w4 hlen4 ho4 hm4; have hl4 : len4 ≤ 1048576 := (by omega); clear hlen4; rw [List.nil_append] at ho4; have HO4 := Lib.hid (ho4.wide (lo2 := wr.heap.size) (by simp <;> omega) (Nat.le_refl _) (Nat.le_refl _)); have G4 := Lib.hid (below_moved (((Below.refl wr.heap.size wr).alloc (Nat.le_refl _) _).drew) hm4 (Nat.le_refl _) (by simp <;> omega)); clear ho4 hm4)
                | (refine step_append_sees rfl _ _ 27 rfl 3 i0 .i64 8 Try.underlying27 hi hz0 hz1 hz2 _ _ _ _ rfl _ _ (((own_nil .i64 3 wr).alloc (.cells #[.int .i64 x] 3)).below (Below.refl _ _).drew) _ _ _ (acc.take pp) rfl (((HT.out.alloc (.cells #[] 3)).alloc (.cells #[.int .i64 x] 3)).below (Below.refl _ _).drew) (by unfold maxLen; omega) (by omega) (by simp <;> omega) ?_; intro a4 len4 cap4 w4 hlen4 ho4 hm4; have hl4 : len4 ≤ 1048576 := (by omega); clear hlen4; rw [List.nil_append] at ho4; have HO4 := Lib.hid (ho4.wide (lo2 := wr.heap.size) (by simp <;> omega) (Nat.le_refl _) (Nat.le_refl _)); have HX4 := Lib.hid ((HS2.out.below (Below.refl _ _).drew).moved hm4 (fun y hy => by cases hy; simp <;> omega)); have G4 := Lib.hid (below_moved ((((Below.refl wr.heap.size wr).alloc (Nat.le_refl _) _).alloc (by simp) _).drew) hm4 (Nat.le_refl _) (by simp <;> omega)); clear ho4 hm4)
                | (refine step_append_sees rfl _ _ 27 rfl 3 i0 .i64 8 Try.underlying27 hi hz0 hz1 hz2 _ _ _ _ rfl _ _ (HN2.out.below (Below.refl _ _).drew) _ _ _ (acc.take pp) rfl (((HT.out.alloc (.cells #[.int .i64 x] 3)).alloc (.cells #[] 3)).below (Below.refl _ _).drew) (by unfold maxLen; omega) (by omega) (by simp <;> omega) ?_; intro a4 len4 cap4 w4 hlen4 ho4 hm4; have hl4 : len4 ≤ 1048576 := (by omega); clear hlen4; rw [List.nil_append] at ho4; have HO4 := Lib.hid (ho4.wide (lo2 := wr.heap.size) (by simp <;> omega) (Nat.le_refl _) (Nat.le_refl _)); have HX4 := Lib.hid ((((sees_one HXW.out wr 3).alloc (.cells #[] 3)).below (Below.refl _ _).drew).moved hm4 (fun y hy => by cases hy; simp <;> omega)); have G4 := Lib.hid (below_moved ((((Below.refl wr.heap.size wr).alloc (Nat.le_refl _) _).alloc (by simp) _).drew) hm4 (Nat.le_refl _) (by simp <;> omega)); clear ho4 hm4))
              all_goals
                go_wp2
                go_roundw
                case rel => exact ⟨jj + 1, _, _, _, by omega, by have h := insAll_len (zs.take (jj + 1)) acc0; rw [List.length_take] at h; have := HA0.out; omega, rfl, by go_num, rfl, HO6.out.someA (insAll_pos hlt2), HO6.out.wide (by omega) (Nat.le_refl _) (Nat.le_refl _), HB.out.trans (G6.out.mono hsz)⟩
                case measure => simp [intOf]; omega
        · obtain rfl : jj = zs.length := by omega
          have HE : Hid (seenK ps (k + 1) = insAll (zs.take zs.length) acc0) := Lib.hid (by rw [HK.out, List.take_length])
          go_wp2_with fail
          go_roundw
          case rel => exact ⟨k + 1, _, _, _, by omega, by rw [HE.out]; exact HLN.out, by go_num, rfl, ⟨_, rfl⟩, by rw [HE.out]; exact HO.out, HB.out⟩
          case measure => simp [intOf]; omega
    · obtain rfl : k = len := by omega
      have HE : Hid (seenK ps k = seenV ps) := Lib.hid (by rw [← HL.out]; rfl)
      clear ho hb
      go_wp2
      go_ret
      have ho := HO.out
      rw [HE.out] at ho
      exact ⟨_, _, _, rfl, ho, HB.out⟩
end Go.Proofs.Ytjckcggjmcaaoaa
