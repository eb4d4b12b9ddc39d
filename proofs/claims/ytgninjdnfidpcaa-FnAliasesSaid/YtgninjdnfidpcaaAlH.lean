/- GroupsOf, the model's. -/
import Derived.Test.YtgninjdnfidpcaaAlA
import Derived.Test.YtgninjdnfidpcaaAlG
import Derived.Test.YtgninjdnfidpcaaAppM
namespace Go.Proofs.Ytgninjdnfidpcaa
open Go.RowKit
theorem sees_cell {k : IntKind} {w : World} {a : Option Addr} {len : Nat} {zs : List Int} (h : Sees k w a len zs) {j : Nat} (hj : j < len) :
    ∃ b off, a = some ⟨b, off, none⟩ ∧ b < w.heap.size ∧ w.cell? ⟨b, off + j, none⟩ = some (.int k (zs.getD j 0)) := by
  rcases h.2.2 with h0 | ⟨b, off, ha, hb, hc⟩
  · omega
  · exact ⟨b, off, ha, hb, hc j hj⟩
theorem OwnM.free {w : World} {lo hi g : Nat} {len cap : Nat} {ms : List (List Int)} (h : OwnM w lo hi (some ⟨g, 0, none⟩) len cap ms) (j : Nat) : w.frozen? ⟨g, j, none⟩ = false := by
  obtain ⟨_, _, _, A, C, h4, _⟩ := h
  exact h4.frozenAt j
theorem moved_cell (w : World) (g j : Nat) (v : Value) : Moved g (g + 1) w (w.setCell ⟨g, j, none⟩ v) := Moved.of_grown (grown_setCell _ _ _ _) (Nat.le_refl _) (Nat.lt_succ_self _)
def Cut9 (U : World) (m : Bool) (s : Value) (w : World) : Prop := ∃ T, T = w ∧ s = .bool m ∧ Below U.heap.size U T
theorem wp_append_ownG {P : Program} {w : World} {ops : Array Oper} {rest : List Oper} {o : Oper} {act : Act} {Q : Exit → Act → World → Prop} (hgd : o.guard = none) (s x : Operand) (t : TypeId)
    (ho : o.op = .call { callee := .builtin .append, args := #[s, x], argTypes := #[t, t] }) (i : TypeInfo) (ht : P.underlying t = some (.slice 24)) (hi : P.info? 24 = some i)
    (hz : i.zero = some (.slice none 0 0)) (hsize : i.size = 1) (hby : i.bytes = 24) (g0 len1 cap1 : Nat) (hsv : act.eval s = .slice (some ⟨g0, 0, none⟩) len1 cap1) (b : Nat) (hxv : act.eval x = .slice (some ⟨b, 0, none⟩) 1 1) (ms : List (List Int)) (lo hi1 : Nat) (hown : OwnM w lo hi1 (some ⟨g0, 0, none⟩) len1 cap1 ms)
    (ar : Option Addr) (cr : Nat) (z : List Int) (hc : w.cell? ⟨b, 0, none⟩ = some (.slice ar z.length cr)) (lo2 hi2 : Nat) (hs : Own .i64 3 w lo2 hi2 ar z.length cr z) (h12 : hi1 ≤ lo2) (hlo2 : lo ≤ lo2) (h63 : len1 + 1 ≤ 1073741824) (hlo : lo ≤ w.heap.size)
    (h : ∀ g cap' w', OwnM w' lo w'.heap.size (some ⟨g, 0, none⟩) (len1 + 1) cap' (ms ++ [z]) → Moved lo hi1 w w' → Moved g0 (g0 + 1) w w' → (g = g0 ∨ g = w.heap.size) → wpList P ops Q rest (act.put o.dst (.slice (some ⟨g, 0, none⟩) (len1 + 1) cap')) w') : wpList P ops Q (o :: rest) act w := by
  obtain ⟨g, cap', w', hr, k1, k2, k3, k4⟩ := run_append_ownM (P := P) w t o.type i ht hi hz hsize hby (some ⟨g0, 0, none⟩) len1 cap1 ms lo hi1 hown b ar cr z hc lo2 hi2 hs h12 hlo2 h63 hlo
  refine wpList_plain hgd fun K hK => ?_
  unfold Oper.wp execOp
  simp only [ho, resolve, invoke, builtin, Sem.run_bind, Sem.run_pure, Result.andThen_ok, List.map_toArray, List.map_cons, List.map_nil, hsv, hxv, hr]
  refine hK _ _ (h g cap' w' k1 k2 ⟨k2.os, k2.tape, k2.output, k2.size, fun k hk hne => k3 k hk (fun y hy => by cases hy; simp only; omega)⟩ ?_)
  rcases k4 with ⟨y, hy, he⟩ | he
  · cases hy; exact .inl he.symm
  · exact .inr he
set_option maxRecDepth 20000 in
set_option maxHeartbeats 12800000 in
theorem specGrp_any (W : World) (a : Option Addr) (len cap : Nat) (xs : List (Int × Int × Int)) (hl : len ≤ 1048576) (hs : SeesY W a len xs) :
    Calls Try.prog 46 #[.slice a len cap] W (MadeM (grpV xs) W) := by
  have HS := Lib.hid hs
  have hl2 : len ≤ 1073741824 := by omega
  clear hs
  obtain ⟨i0, hi, hz0, hz1, hz2⟩ := info_parts info_i64
  obtain ⟨i1, hi1, hz10, hz11, hz12⟩ := info_parts info_row
  have HB0 := Lib.hid ((Below.refl W.heap.size W).alloc (Nat.le_refl _) (.cells #[] 24))
  have HO0 := Lib.hid (ownM_nil0 W)
  cases hA : areR xs
  · have HA := Lib.hid hA
    have HG : Hid (grpV xs = []) := Lib.hid (grp_none hA)
    clear hA
    go_enter Try.func46, Try.ntmps46
    go_wp2_with (go_at_call 37; refine (specAreR_any _ _ _ _ xs hl2 (HS.out.alloc _)).mono ?_; rw [HA.out]; rintro e w1 ⟨rfl, hb1⟩; have HO1 := Lib.hid (HO0.out.below hb1); have HB1 := Lib.hid (below_up HB0.out hb1 (Nat.le_refl _)); clear hb1)
    go_ret
    exact ⟨_, _, _, rfl, by rw [HG.out]; exact HO1.out.wide (Nat.le_refl _) HO1.out.2.1 (Nat.le_refl _), HB1.out⟩
  · have HA := Lib.hid hA
    have hlx : xs.length ≤ 12 := (areR_true.1 hA).2
    have HG : Hid (grpV xs = grpK xs (addrV xs)) := Lib.hid (by unfold grpV; rw [if_pos hA])
    have HAL : Hid ((addrV xs).length ≤ 12) := Lib.hid (Nat.le_trans (addr_len xs) hlx)
    have HASC := Lib.hid (addr_asc xs)
    clear hA
    go_enter Try.func46, Try.ntmps46
    go_wp2_with (first
      | (go_at_call 37; refine (specAreR_any _ _ _ _ xs hl2 (HS.out.alloc _)).mono ?_; rw [HA.out]; rintro e w1 ⟨rfl, hb1⟩; have HO1 := Lib.hid (HO0.out.below hb1); have HB1 := Lib.hid (below_up HB0.out hb1 (Nat.le_refl _)); have hz01 := hb1.size; clear hb1)
      | (go_at_call 42; refine (specAddr_any w1 a len cap xs hl (HS.out.below HB1.out)).mono ?_; rintro e w2 ⟨aa, n, ca, rfl, ho2, hb2⟩; have HD2 := Lib.hid ho2; have HO2 := Lib.hid (HO1.out.below hb2); have HB2 := Lib.hid (below_up HB1.out hb2 (Nat.le_refl _)); have hzw := hb2.size; clear ho2 hb2))
    obtain ⟨ad, had⟩ : ∃ ad, ad = addrV xs := ⟨_, rfl⟩
    rw [← had] at HG HAL HASC HD2
    clear had
    have hn := HD2.out.1
    subst hn
    have hn12 : ad.length ≤ 12 := HAL.out
    go_loopw [3, 5, 6] (fun v s _ wr => ∃ (i g l' c' : Nat), i ≤ ad.length ∧ s = .int .i64 i ∧ v = .slice (some ⟨g, 0, none⟩) l' c' ∧ OwnM wr W.heap.size wr.heap.size (some ⟨g, 0, none⟩) l' c' (grpK xs (ad.take i)) ∧ Sees .i64 wr aa ad.length ad ∧ (∀ y, aa = some y → y.block ≠ g) ∧ Below W.heap.size W wr) (fun _ s _ _ => ad.length - (intOf s).toNat)
    case atStart => exact ⟨0, _, _, _, Nat.zero_le _, rfl, rfl, HO2.out.wide (Nat.le_refl _) HO2.out.2.1 (Nat.le_refl _), HD2.out.sees, fun y hy => by have := HD2.out.2.2.2.2 y hy; simp at hz01; omega, HB2.out⟩
    case round =>
      clear HD2 HO2 HB2 HO1 HB1
      obtain ⟨i, g, l', c', hi', rfl, rfl, ho, hd, hne, hb⟩ := hrel
      obtain ⟨V, rfl⟩ : ∃ V, V = wr := ⟨_, rfl⟩
      have HM := Lib.hid ho
      have HD := Lib.hid hd
      have HNE := Lib.hid hne
      have HB := Lib.hid hb
      have hszV := hb.size
      clear ho hd hne hb
      by_cases hlt : i < ad.length
      · obtain ⟨ba, oa, rfl, hba, hax⟩ := sees_cell HD.out hlt
        obtain ⟨x, hx⟩ : ∃ x, x = ad.getD i 0 := ⟨_, rfl⟩
        have HXW : Hid ((Lit.int .i64 x).wf = true) := Lib.hid (by rw [hx]; exact HD.out.2.1 _ (getD_mem hlt))
        rw [← hx] at hax
        have HAX := Lib.hid hax
        obtain ⟨gs, hgs⟩ : ∃ gs, gs = grpK xs (ad.take i) := ⟨_, rfl⟩
        have HN : Hid (grpK xs (ad.take (i + 1)) = place xs gs x) := Lib.hid (by rw [grpK_next hlt, ← hgs, ← hx])
        have hsm := grpK_small xs HASC.out (Nat.le_of_lt hlt)
        rw [← hgs] at hsm HM
        have hll : l' ≤ 12 := by have := HM.out.1; omega
        have HR : Hid (∀ k, (row gs k).length ≤ 12) := Lib.hid (fun k => by have := hsm.2 k; omega)
        have HL := Lib.hid HM.out.1
        have hnb : ba ≠ g := HNE.out _ rfl
        have hgV := (HM.out.2.2.1 _ rfl).2
        simp only at hgV
        have i00 : (0 : Int) ≤ (i : Int) := by omega
        have i01 : (i : Int) < (ad.length : Int) := by omega
        have i02 : i < ad.length := hlt
        clear hax hx hgs hsm
        go_wp2_with fail
        go_loopw [6] (fun s wr2 => ∃ k : Nat, k ≤ l' ∧ s = .int .i64 k ∧ Hid (∀ j, j < k → mayB xs (row gs j ++ [x]) = false) ∧ Below V.heap.size V wr2) (fun s _ => l' - (intOf s).toNat)
        case atStart => exact ⟨0, Nat.zero_le _, rfl, Lib.hid (fun j hj => absurd hj (Nat.not_lt_zero _)), Below.refl _ _⟩
        case round =>
          obtain ⟨k, hk, rfl, HK, hb⟩ := hrel
          obtain ⟨U, rfl⟩ : ∃ U, U = wr := ⟨_, rfl⟩
          have HBU := Lib.hid hb
          have HMU := Lib.hid (HM.out.below hb)
          have HSU := Lib.hid ((HS.out.below HB.out).below hb)
          have hszU := hb.size
          have ax := (hb.cell (p := ⟨ba, oa + i, none⟩) hba).trans HAX.out
          have hbaU : ba < U.heap.size := Nat.lt_of_lt_of_le hba hszU
          have hgU : g < U.heap.size := Nat.lt_of_lt_of_le hgV hszU
          clear hb
          by_cases hkl : k < l'
          · obtain ⟨b1, o1, ar, cr, hb1, _, hrc, hrle, hrm, hrs⟩ := HMU.out.sees.2 k hkl
            cases hb1
            rw [Nat.zero_add] at hrc
            obtain ⟨zk, hzk⟩ : ∃ zk, zk = row gs k := ⟨_, rfl⟩
            rw [← hzk] at hrc hrs hrle
            have hzl : zk.length ≤ 12 := by rw [hzk]; exact HR.out k
            have HZK := Lib.hid hzk
            have HRS := Lib.hid hrs
            have HRC := Lib.hid hrc
            have HAXU := Lib.hid ax
            obtain ⟨m, hm⟩ : ∃ m, m = mayB xs (zk ++ [x]) := ⟨_, rfl⟩
            have HMM := Lib.hid hm
            have k00 : (0 : Int) ≤ (k : Int) := by omega
            have k01 : (k : Int) < (l' : Int) := by omega
            have HN2 : Hid (Own .i64 3 ((U.alloc (.cells #[.int .i64 x] 3)).alloc (.cells #[] 3)) (U.heap.size + 1) (U.heap.size + 1 + 1) (some ⟨U.heap.size + 1, 0, none⟩) 0 0 []) := Lib.hid (by
              have h := own_nil .i64 3 (U.alloc (.cells #[.int .i64 x] 3))
              rw [World.size_alloc] at h
              exact h)
            have HS2 : Hid (Sees .i64 ((U.alloc (.cells #[] 3)).alloc (.cells #[.int .i64 x] 3)) (some ⟨U.heap.size + 1, 0, none⟩) 1 [x]) := Lib.hid (by
              have h := sees_one HXW.out (U.alloc (.cells #[] 3)) 3
              rw [World.size_alloc] at h
              exact h)
            clear hzk hrs hm
            go_wp2_with fail
            go_cut [40] (Cut9 U (!m))
            case first =>
              go_region_held3 (fun w' => w'.cell? ⟨g, k, none⟩ = some (.slice ar zk.length cr) ∧ w'.cell? ⟨ba, oa + i, none⟩ = some (.int .i64 x)) (go_keep) (first
                | (go_at_call 86; refine (specMay_any _ a len cap xs _ _ _ (zk ++ [x]) hl2 (HSU.out.below G5.out) (by omega) HO5.out.sees).mono ?_; rw [← HMM.out]; rintro e w6 ⟨rfl, hb6⟩; have G6 := Lib.hid (below_up (B := U.heap.size) G5.out hb6 (Nat.le_refl _)); have hrc := (G6.out.cell (p := ⟨g, k, none⟩) hgU).trans HRC.out; have ax := (G6.out.cell (p := ⟨ba, oa + i, none⟩) hbaU).trans HAXU.out; clear hb6)
                | (refine step_append_on (by rfl) _ _ 24 rfl 3 i0 .i64 8 Try.underlying24 hi hz0 hz1 hz2 _ _ _ _ rfl _ _ HO4.out _ 1 1 [x] rfl HX4.out (by unfold maxLen; omega) (by omega) (by have := G4.out.size; simp; omega) ?_; intro a5 len5 cap5 w5 hlen5 ho5 hm5; have hl5 : len5 ≤ 13 := (by omega); clear hlen5; have HO5 := Lib.hid ho5; have G5 := Lib.hid (below_moved (B := U.heap.size) (G4.out) hm5 (Nat.le_refl _) (Nat.le_refl _)); have hrc := (G5.out.cell (p := ⟨g, k, none⟩) hgU).trans HRC.out; have ax := (G5.out.cell (p := ⟨ba, oa + i, none⟩) hbaU).trans HAXU.out; clear ho5 hm5)
                | (refine step_append_on (by rfl) _ _ 24 rfl 3 i0 .i64 8 Try.underlying24 hi hz0 hz1 hz2 _ _ _ _ rfl _ _ (HO4.out.alloc _) _ 1 1 [x] rfl (sees_one HXW.out _ _) (by unfold maxLen; omega) (by omega) (by have := G4.out.size; simp; omega) ?_; intro a5 len5 cap5 w5 hlen5 ho5 hm5; have hl5 : len5 ≤ 13 := (by omega); clear hlen5; have HO5 := Lib.hid ho5; have G5 := Lib.hid (below_moved (B := U.heap.size) (G4.out.alloc G4.out.size _) hm5 (Nat.le_refl _) (Nat.le_refl _)); have hrc := (G5.out.cell (p := ⟨g, k, none⟩) hgU).trans HRC.out; have ax := (G5.out.cell (p := ⟨ba, oa + i, none⟩) hbaU).trans HAXU.out; clear ho5 hm5)
                | (refine step_append_on (by rfl) _ _ 24 rfl 3 i0 .i64 8 Try.underlying24 hi hz0 hz1 hz2 _ _ _ _ rfl _ _ ((own_nil _ _ _).below (Below.refl _ _).drew) _ _ _ zk rfl ((HRS.out.alloc _).below (Below.refl _ _).drew) (by unfold maxLen; omega) (by omega) (by simp <;> omega) ?_; intro a4 len4 cap4 w4 hlen4 ho4 hm4; have hl4 : len4 ≤ 12 := (by omega); clear hlen4; rw [List.nil_append] at ho4; have HO4 := Lib.hid (ho4.wide (lo2 := U.heap.size) (by simp <;> omega) (Nat.le_refl _) (Nat.le_refl _)); have G4 := Lib.hid (below_moved (B := U.heap.size) (((Below.refl U.heap.size U).alloc (Nat.le_refl _) _).drew) hm4 (Nat.le_refl _) (by simp <;> omega)); have hrc := (G4.out.cell (p := ⟨g, k, none⟩) hgU).trans HRC.out; have ax := (G4.out.cell (p := ⟨ba, oa + i, none⟩) hbaU).trans HAXU.out; clear ho4 hm4)
                | (refine step_append_on (by rfl) _ _ 24 rfl 3 i0 .i64 8 Try.underlying24 hi hz0 hz1 hz2 _ _ _ _ rfl _ _ (((own_nil .i64 3 U).alloc (.cells #[.int .i64 x] 3)).below (Below.refl _ _).drew) _ _ _ zk rfl (((HRS.out.alloc (.cells #[] 3)).alloc (.cells #[.int .i64 x] 3)).below (Below.refl _ _).drew) (by unfold maxLen; omega) (by omega) (by simp <;> omega) ?_; intro a4 len4 cap4 w4 hlen4 ho4 hm4; have hl4 : len4 ≤ 12 := (by omega); clear hlen4; rw [List.nil_append] at ho4; have HO4 := Lib.hid (ho4.wide (lo2 := U.heap.size) (by simp <;> omega) (Nat.le_refl _) (Nat.le_refl _)); have HX4 := Lib.hid ((HS2.out.below (Below.refl _ _).drew).moved hm4 (fun y hy => by cases hy; simp <;> omega)); have G4 := Lib.hid (below_moved (B := U.heap.size) ((((Below.refl U.heap.size U).alloc (Nat.le_refl _) _).alloc (by simp) _).drew) hm4 (Nat.le_refl _) (by simp <;> omega)); have hrc := (G4.out.cell (p := ⟨g, k, none⟩) hgU).trans HRC.out; have ax := (G4.out.cell (p := ⟨ba, oa + i, none⟩) hbaU).trans HAXU.out; clear ho4 hm4)
                | (refine step_append_on (by rfl) _ _ 24 rfl 3 i0 .i64 8 Try.underlying24 hi hz0 hz1 hz2 _ _ _ _ rfl _ _ (HN2.out.below (Below.refl _ _).drew) _ _ _ zk rfl (((HRS.out.alloc (.cells #[.int .i64 x] 3)).alloc (.cells #[] 3)).below (Below.refl _ _).drew) (by unfold maxLen; omega) (by omega) (by simp <;> omega) ?_; intro a4 len4 cap4 w4 hlen4 ho4 hm4; have hl4 : len4 ≤ 12 := (by omega); clear hlen4; rw [List.nil_append] at ho4; have HO4 := Lib.hid (ho4.wide (lo2 := U.heap.size) (by simp <;> omega) (Nat.le_refl _) (Nat.le_refl _)); have HX4 := Lib.hid ((((sees_one HXW.out U 3).alloc (.cells #[] 3)).below (Below.refl _ _).drew).moved hm4 (fun y hy => by cases hy; simp <;> omega)); have G4 := Lib.hid (below_moved (B := U.heap.size) ((((Below.refl U.heap.size U).alloc (Nat.le_refl _) _).alloc (by simp) _).drew) hm4 (Nat.le_refl _) (by simp <;> omega)); have hrc := (G4.out.cell (p := ⟨g, k, none⟩) hgU).trans HRC.out; have ax := (G4.out.cell (p := ⟨ba, oa + i, none⟩) hbaU).trans HAXU.out; clear ho4 hm4))
              all_goals go_wp2_with fail
              all_goals go_meet
              all_goals exact ⟨_, rfl, rfl, G6.out⟩
            case rest =>
              obtain ⟨T, rfl, rfl, hb6⟩ := hcut
              cases m
              · have HK2 : Hid (∀ j, j < k + 1 → mayB xs (row gs j ++ [x]) = false) := Lib.hid (next_all HK.out (by rw [← HZK.out]; exact HMM.out.symm))
                have HB6 := Lib.hid (below_up HBU.out hb6 (Nat.le_refl _))
                clear hb6
                go_wp2_with fail
                go_roundw
                case rel => exact ⟨k + 1, hkl, by go_num, HK2, HB6.out⟩
                case measure => simp [intOf]; omega
              · have HP : Hid (place xs gs x = gs.set k (zk ++ [x])) := Lib.hid (by rw [HZK.out]; exact place_join (by rw [HL.out]; exact hkl) HK.out (by rw [← HZK.out]; exact HMM.out.symm))
                have kne : ¬ (k : Int) = (l' : Int) := by omega
                have HBT := Lib.hid (below_up (B := V.heap.size) HBU.out hb6 (Nat.le_refl _))
                have HMT := Lib.hid (HMU.out.below hb6)
                have HRT := Lib.hid (HRS.out.below hb6)
                have hrcT := (hb6.cell (p := ⟨g, k, none⟩) hgU).trans HRC.out
                have axT := (hb6.cell (p := ⟨ba, oa + i, none⟩) hbaU).trans HAXU.out
                have hszT := hb6.size
                have hgT : g < T.heap.size := Nat.lt_of_lt_of_le hgU hszT
                have hbaT : ba < T.heap.size := Nat.lt_of_lt_of_le hbaU hszT
                have HRCT := Lib.hid hrcT
                have HAXT := Lib.hid axT
                have ne1 : ¬ T.heap.size = g := by omega
                have ne2 : ¬ T.heap.size + 1 = g := by omega
                have ne3 : ¬ g = ba := fun e => hnb e.symm
                have ne4 : ¬ ba = g := hnb
                have HN3 : Hid (Own .i64 3 ((T.alloc (.cells #[.int .i64 x] 3)).alloc (.cells #[] 3)) (T.heap.size + 1) (T.heap.size + 1 + 1) (some ⟨T.heap.size + 1, 0, none⟩) 0 0 []) := Lib.hid (by
                  have h := own_nil .i64 3 (T.alloc (.cells #[.int .i64 x] 3))
                  rw [World.size_alloc] at h
                  exact h)
                have HS3 : Hid (Sees .i64 ((T.alloc (.cells #[] 3)).alloc (.cells #[.int .i64 x] 3)) (some ⟨T.heap.size + 1, 0, none⟩) 1 [x]) := Lib.hid (by
                  have h := sees_one HXW.out (T.alloc (.cells #[] 3)) 3
                  rw [World.size_alloc] at h
                  exact h)
                have frT := HMT.out.free k
                have FRT := Lib.hid frT
                have HDT := Lib.hid ((HD.out.below HBU.out).below hb6)
                have hgW := (HM.out.2.2.1 _ rfl).1
                simp only at hgW
                clear hb6 hrc ax HN2 HS2 HRS HMU HSU HBU
                go_wp2_with fail
                go_region_law (first
                  | (refine step_append_on (by rfl) _ _ 24 rfl 3 i0 .i64 8 Try.underlying24 hi hz0 hz1 hz2 _ _ _ _ rfl _ _ HO4.out _ 1 1 [x] rfl HX4.out (by unfold maxLen; omega) (by omega) (by have := G4.out.size; simp; omega) ?_; intro a5 len5 cap5 w5 hlen5 ho5 hm5; clear hlen5; have hl5 := ho5.1; subst hl5; have HO5 := Lib.hid ho5; have G5 := Lib.hid (below_moved (B := T.heap.size) (G4.out) hm5 (Nat.le_refl _) (Nat.le_refl _)); have frT := (G5.out.frozen (p := ⟨g, k, none⟩) hgT).trans FRT.out; have hrc := (G5.out.cell (p := ⟨g, k, none⟩) hgT).trans HRCT.out; have ax := (G5.out.cell (p := ⟨ba, oa + i, none⟩) hbaT).trans HAXT.out; clear ho5 hm5)
                  | (refine step_append_on (by rfl) _ _ 24 rfl 3 i0 .i64 8 Try.underlying24 hi hz0 hz1 hz2 _ _ _ _ rfl _ _ (HO4.out.alloc _) _ 1 1 [x] rfl (sees_one HXW.out _ _) (by unfold maxLen; omega) (by omega) (by have := G4.out.size; simp; omega) ?_; intro a5 len5 cap5 w5 hlen5 ho5 hm5; clear hlen5; have hl5 := ho5.1; subst hl5; have HO5 := Lib.hid ho5; have G5 := Lib.hid (below_moved (B := T.heap.size) (G4.out.alloc G4.out.size _) hm5 (Nat.le_refl _) (Nat.le_refl _)); have frT := (G5.out.frozen (p := ⟨g, k, none⟩) hgT).trans FRT.out; have hrc := (G5.out.cell (p := ⟨g, k, none⟩) hgT).trans HRCT.out; have ax := (G5.out.cell (p := ⟨ba, oa + i, none⟩) hbaT).trans HAXT.out; clear ho5 hm5)
                  | (refine step_append_on (by rfl) _ _ 24 rfl 3 i0 .i64 8 Try.underlying24 hi hz0 hz1 hz2 _ _ _ _ rfl _ _ ((own_nil _ _ _).below (Below.refl _ _).drew) _ _ _ zk rfl ((HRT.out.alloc _).below (Below.refl _ _).drew) (by unfold maxLen; omega) (by omega) (by simp <;> omega) ?_; intro a4 len4 cap4 w4 hlen4 ho4 hm4; have hl4 : len4 ≤ 12 := (by omega); clear hlen4; rw [List.nil_append] at ho4; have HO4 := Lib.hid (ho4.wide (lo2 := T.heap.size) (by simp <;> omega) (Nat.le_refl _) (Nat.le_refl _)); have G4 := Lib.hid (below_moved (B := T.heap.size) (((Below.refl T.heap.size T).alloc (Nat.le_refl _) _).drew) hm4 (Nat.le_refl _) (by simp <;> omega)); have frT := (G4.out.frozen (p := ⟨g, k, none⟩) hgT).trans FRT.out; have hrc := (G4.out.cell (p := ⟨g, k, none⟩) hgT).trans HRCT.out; have ax := (G4.out.cell (p := ⟨ba, oa + i, none⟩) hbaT).trans HAXT.out; clear ho4 hm4)
                  | (refine step_append_on (by rfl) _ _ 24 rfl 3 i0 .i64 8 Try.underlying24 hi hz0 hz1 hz2 _ _ _ _ rfl _ _ (((own_nil .i64 3 T).alloc (.cells #[.int .i64 x] 3)).below (Below.refl _ _).drew) _ _ _ zk rfl (((HRT.out.alloc (.cells #[] 3)).alloc (.cells #[.int .i64 x] 3)).below (Below.refl _ _).drew) (by unfold maxLen; omega) (by omega) (by simp <;> omega) ?_; intro a4 len4 cap4 w4 hlen4 ho4 hm4; have hl4 : len4 ≤ 12 := (by omega); clear hlen4; rw [List.nil_append] at ho4; have HO4 := Lib.hid (ho4.wide (lo2 := T.heap.size) (by simp <;> omega) (Nat.le_refl _) (Nat.le_refl _)); have HX4 := Lib.hid ((HS3.out.below (Below.refl _ _).drew).moved hm4 (fun y hy => by cases hy; simp <;> omega)); have G4 := Lib.hid (below_moved (B := T.heap.size) ((((Below.refl T.heap.size T).alloc (Nat.le_refl _) _).alloc (by simp) _).drew) hm4 (Nat.le_refl _) (by simp <;> omega)); have frT := (G4.out.frozen (p := ⟨g, k, none⟩) hgT).trans FRT.out; have hrc := (G4.out.cell (p := ⟨g, k, none⟩) hgT).trans HRCT.out; have ax := (G4.out.cell (p := ⟨ba, oa + i, none⟩) hbaT).trans HAXT.out; clear ho4 hm4)
                  | (refine step_append_on (by rfl) _ _ 24 rfl 3 i0 .i64 8 Try.underlying24 hi hz0 hz1 hz2 _ _ _ _ rfl _ _ (HN3.out.below (Below.refl _ _).drew) _ _ _ zk rfl (((HRT.out.alloc (.cells #[.int .i64 x] 3)).alloc (.cells #[] 3)).below (Below.refl _ _).drew) (by unfold maxLen; omega) (by omega) (by simp <;> omega) ?_; intro a4 len4 cap4 w4 hlen4 ho4 hm4; have hl4 : len4 ≤ 12 := (by omega); clear hlen4; rw [List.nil_append] at ho4; have HO4 := Lib.hid (ho4.wide (lo2 := T.heap.size) (by simp <;> omega) (Nat.le_refl _) (Nat.le_refl _)); have HX4 := Lib.hid ((((sees_one HXW.out T 3).alloc (.cells #[] 3)).below (Below.refl _ _).drew).moved hm4 (fun y hy => by cases hy; simp <;> omega)); have G4 := Lib.hid (below_moved (B := T.heap.size) ((((Below.refl T.heap.size T).alloc (Nat.le_refl _) _).alloc (by simp) _).drew) hm4 (Nat.le_refl _) (by simp <;> omega)); have frT := (G4.out.frozen (p := ⟨g, k, none⟩) hgT).trans FRT.out; have hrc := (G4.out.cell (p := ⟨g, k, none⟩) hgT).trans HRCT.out; have ax := (G4.out.cell (p := ⟨ba, oa + i, none⟩) hbaT).trans HAXT.out; clear ho4 hm4))
                all_goals
                  go_wp2_with fail
                  go_roundw
                  case rel =>
                    obtain ⟨q1, _⟩ := HMT.out.put (by omega) G5.out HO5.out k hkl
                    rw [show (zk ++ [x]).length = zk.length + 1 by simp] at q1
                    exact ⟨i + 1, g, l', c', by omega, by go_num, rfl, by rw [HN.out, HP.out]; exact q1.wide (Nat.le_refl _) (by simp [World.setCell]) (Nat.le_refl _), (HDT.out.below G5.out).moved (moved_cell _ _ _ _) (fun y hy => by cases hy; simp only; omega), HNE.out, (HB.out.trans ((HBT.out.trans (G5.out.mono HBT.out.size)).mono hszV)).setCell (by exact hgW) _⟩
                  case measure => simp [intOf]; omega
          · obtain rfl : k = l' := by omega
            have HP : Hid (place xs gs x = gs ++ [[x]]) := Lib.hid (place_new (fun j hj => HK.out j (by rw [← HL.out]; exact hj)))
            have HDU := Lib.hid (HD.out.below HBU.out)
            have HBW := Lib.hid (HB.out.trans (HBU.out.mono hszV))
            have knn : ¬ (k : Int) < (k : Int) := by omega
            go_wp2_with fail
            refine wp_region_noPanic ?_
            refine wp_region_held_drew (S := (fun _ => True)) (by kernel_rfl) ?_ (fun hHeld => ?_)
            · exact trivial
            refine take_val 0 (some 20) (.int .i64 k) (by kernel_rfl) (by kernel_rfl) (by kernel_rfl) (fun _ _ _ h => h) ⟨_, rfl, rfl, by rfl, fun w hSw => by go_simp⟩ (by assumption) ?_
            try simp only [Act.put, List.setIfInBounds_toArray, List.set_cons_zero, List.set_cons_succ]
            refine take_val 1 (some 21) (.slice (some ⟨g, 0, none⟩) k c') (by kernel_rfl) (by kernel_rfl) (by kernel_rfl) (fun _ _ _ h => h) ⟨_, rfl, rfl, by rfl, fun w hSw => by go_simp⟩ (by assumption) ?_
            try simp only [Act.put, List.setIfInBounds_toArray, List.set_cons_zero, List.set_cons_succ]
            refine take_val 2 (some 22) (.int .i64 k) (by kernel_rfl) (by kernel_rfl) (by kernel_rfl) (fun _ _ _ h => h) ⟨_, rfl, rfl, by rfl, fun w hSw => by go_simp⟩ (by assumption) ?_
            try simp only [Act.put, List.setIfInBounds_toArray, List.set_cons_zero, List.set_cons_succ]
            refine take_val 3 (some 23) (.bool false) (by kernel_rfl) (by kernel_rfl) (by kernel_rfl) (fun _ _ _ h => h) ⟨_, rfl, rfl, by rfl, fun w hSw => by go_simp⟩ (by assumption) ?_
            try simp only [Act.put, List.setIfInBounds_toArray, List.set_cons_zero, List.set_cons_succ]
            refine take_val 4 (some 24) (.bool false) (by kernel_rfl) (by kernel_rfl) (by kernel_rfl) (fun _ _ _ h => h) ⟨_, rfl, rfl, by rfl, fun w hSw => by go_simp⟩ (by assumption) ?_
            try simp only [Act.put, List.setIfInBounds_toArray, List.set_cons_zero, List.set_cons_succ]
            refine take_un 5 (some 25) (by kernel_rfl) (by kernel_rfl) (by kernel_rfl) (fun _ _ _ h => h) ⟨_, rfl, rfl, by rfl⟩ (by assumption) ?_
            try simp only [Act.put, List.setIfInBounds_toArray, List.set_cons_zero, List.set_cons_succ]
            refine take_un 6 (some 26) (by kernel_rfl) (by kernel_rfl) (by kernel_rfl) (fun _ _ _ h => h) ⟨_, rfl, rfl, by rfl⟩ (by assumption) ?_
            try simp only [Act.put, List.setIfInBounds_toArray, List.set_cons_zero, List.set_cons_succ]
            refine take_un 7 (some 27) (by kernel_rfl) (by kernel_rfl) (by kernel_rfl) (fun _ _ _ h => h) ⟨_, rfl, rfl, by rfl⟩ (by assumption) ?_
            try simp only [Act.put, List.setIfInBounds_toArray, List.set_cons_zero, List.set_cons_succ]
            refine take_un 8 (some 28) (by kernel_rfl) (by kernel_rfl) (by kernel_rfl) (fun _ _ _ h => h) ⟨_, rfl, rfl, by rfl⟩ (by assumption) ?_
            try simp only [Act.put, List.setIfInBounds_toArray, List.set_cons_zero, List.set_cons_succ]
            refine take_un 9 (some 29) (by kernel_rfl) (by kernel_rfl) (by kernel_rfl) (fun _ _ _ h => h) ⟨_, rfl, rfl, by rfl⟩ (by assumption) ?_
            try simp only [Act.put, List.setIfInBounds_toArray, List.set_cons_zero, List.set_cons_succ]
            refine take_un 10 (some 30) (by kernel_rfl) (by kernel_rfl) (by kernel_rfl) (fun _ _ _ h => h) ⟨_, rfl, rfl, by rfl⟩ (by assumption) ?_
            try simp only [Act.put, List.setIfInBounds_toArray, List.set_cons_zero, List.set_cons_succ]
            refine take_un 11 (some 31) (by kernel_rfl) (by kernel_rfl) (by kernel_rfl) (fun _ _ _ h => h) ⟨_, rfl, rfl, by rfl⟩ (by assumption) ?_
            try simp only [Act.put, List.setIfInBounds_toArray, List.set_cons_zero, List.set_cons_succ]
            refine take_un 12 (some 32) (by kernel_rfl) (by kernel_rfl) (by kernel_rfl) (fun _ _ _ h => h) ⟨_, rfl, rfl, by rfl⟩ (by assumption) ?_
            try simp only [Act.put, List.setIfInBounds_toArray, List.set_cons_zero, List.set_cons_succ]
            refine take_un 13 (some 33) (by kernel_rfl) (by kernel_rfl) (by kernel_rfl) (fun _ _ _ h => h) ⟨_, rfl, rfl, by rfl⟩ (by assumption) ?_
            try simp only [Act.put, List.setIfInBounds_toArray, List.set_cons_zero, List.set_cons_succ]
            refine take_un 14 (some 34) (by kernel_rfl) (by kernel_rfl) (by kernel_rfl) (fun _ _ _ h => h) ⟨_, rfl, rfl, by rfl⟩ (by assumption) ?_
            try simp only [Act.put, List.setIfInBounds_toArray, List.set_cons_zero, List.set_cons_succ]
            refine take_un 15 (some 35) (by kernel_rfl) (by kernel_rfl) (by kernel_rfl) (fun _ _ _ h => h) ⟨_, rfl, rfl, by rfl⟩ (by assumption) ?_
            try simp only [Act.put, List.setIfInBounds_toArray, List.set_cons_zero, List.set_cons_succ]
            refine take_un 16 (some 36) (by kernel_rfl) (by kernel_rfl) (by kernel_rfl) (fun _ _ _ h => h) ⟨_, rfl, rfl, by rfl⟩ (by assumption) ?_
            try simp only [Act.put, List.setIfInBounds_toArray, List.set_cons_zero, List.set_cons_succ]
            refine take_un 17 (some 37) (by kernel_rfl) (by kernel_rfl) (by kernel_rfl) (fun _ _ _ h => h) ⟨_, rfl, rfl, by rfl⟩ (by assumption) ?_
            try simp only [Act.put, List.setIfInBounds_toArray, List.set_cons_zero, List.set_cons_succ]
            refine take_un 18 (some 38) (by kernel_rfl) (by kernel_rfl) (by kernel_rfl) (fun _ _ _ h => h) ⟨_, rfl, rfl, by rfl⟩ (by assumption) ?_
            try simp only [Act.put, List.setIfInBounds_toArray, List.set_cons_zero, List.set_cons_succ]
            refine take_un 19 (some 39) (by kernel_rfl) (by kernel_rfl) (by kernel_rfl) (fun _ _ _ h => h) ⟨_, rfl, rfl, by rfl⟩ (by assumption) ?_
            try simp only [Act.put, List.setIfInBounds_toArray, List.set_cons_zero, List.set_cons_succ]
            refine take_val 20 (some 40) (.bool false) (by kernel_rfl) (by kernel_rfl) (by kernel_rfl) (fun _ _ _ h => h) ⟨_, rfl, rfl, by rfl, fun w hSw => by go_simp⟩ (by assumption) ?_
            try simp only [Act.put, List.setIfInBounds_toArray, List.set_cons_zero, List.set_cons_succ]
            refine wpAnyH_done (by kernel_rfl) ?_ _
            refine NoPanic.normal ?_
            go_wp2_with (first
              | (at_builtin; refine wp_append_ownG rfl _ _ 50 rfl i1 Try.underlying50 hi1 hz10 hz11 hz12 g _ _ rfl (U.heap.size + 1) rfl _ W.heap.size V.heap.size ((((HMU.out.below (Below.refl _ _).drew).alloc _).alloc _)) (some ⟨U.heap.size, 0, none⟩) 1 [x] (by simp) U.heap.size (U.heap.size + 1) ((own_single HXW.out 3 U.drew).alloc _) (by omega) (by omega) (by omega) (by simp; omega) ?_; intro g4 c4 w4 ho4 hm4 hn4 hg4; have HO4 := Lib.hid ho4; have HM4 := Lib.hid hm4; have HN4 := Lib.hid hn4; have HG4 := Lib.hid hg4; clear ho4 hm4 hn4 hg4))
            have hszW := HBW.out.size
            go_roundw
            case rel => exact ⟨i + 1, g4, k + 1, c4, by omega, by go_num, rfl, by rw [HN.out, HP.out]; exact HO4.out, (((HDU.out.below (Below.refl _ _).drew).alloc _).alloc _).moved HN4.out (fun y hy => by cases hy; simp only; omega), fun y hy => by cases hy; simp only; have h4 := HG4.out; simp at h4; omega, below_moved ((HBW.out.drew.alloc hszW _).alloc (by simp <;> omega) _) HM4.out (Nat.le_refl _) (Nat.le_refl _)⟩
            case measure => simp [intOf]; omega
      · obtain rfl : i = ad.length := by omega
        have HE : Hid (grpV xs = grpK xs (ad.take ad.length)) := Lib.hid (by rw [List.take_length]; exact HG.out)
        go_wp2
        go_ret
        exact ⟨_, _, _, rfl, by rw [HE.out]; exact HM.out, HB.out⟩
end Go.Proofs.Ytgninjdnfidpcaa
