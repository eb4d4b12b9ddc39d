/- Systems: the model's IsSystem. -/
import Derived.Test.YtedkeobhcpbigaaSysF
import Derived.Test.YtedkeobhcpbigaaSlR
import Derived.Test.YtedkeobhcpbigaaRedW
namespace Go.Proofs.Ytedkeobhcpbigaa
open Go.RowKit
theorem isSys_sums {ms : List (List Int)} {vs : List Int} {cols : Int} {i : Nat} (hi : i < vs.length) (h : inR (vs.getD i 0) (-1000) 1000 = false) : isSys ms vs cols = false := by
  rcases hb : isSys ms vs cols with _ | _
  · rfl
  · have := List.all_eq_true.1 (isSys_true hb).1 (vs.getD i 0) (getD_mem hi)
    rw [h] at this
    cases this
theorem sumsOk_of {vs : List Int} (h : ∀ i, i < vs.length → inR (vs.getD i 0) (-1000) 1000 = true) : sumsOk vs = true := by
  refine List.all_eq_true.2 fun v hv => ?_
  obtain ⟨i, hi, rfl⟩ := List.mem_iff_getElem.1 hv
  have := h i hi
  simpa [List.getD, hi] using this
theorem isSys_mat {ms : List (List Int)} {vs : List Int} {cols : Int} (h : isMat ms cols = false) : isSys ms vs cols = false := by simp [isSys, h]
theorem isSys_len {ms : List (List Int)} {vs : List Int} {cols : Int} (h1 : sumsOk vs = true) (h2 : isMat ms cols = true) : isSys ms vs cols = decide (vs.length = ms.length) := by simp [isSys, h1, h2]
set_option maxRecDepth 20000 in
set_option maxHeartbeats 800000 in
theorem specIsSys_any (W : World) (a : Option Addr) (len cap : Nat) (ms : List (List Int)) (b : Option Addr) (lb cb : Nat) (vs : List Int) (cols : Int) (hsm : SmallM ms) (hs : SeesM W a len ms) (hl : lb ≤ 1073741824) (hs2 : Sees .i64 W b lb vs) (hn : -9223372036854775808 ≤ cols) (hm : cols ≤ 9223372036854775807) :
    Calls Try.prog 102 #[.slice a len cap, .slice b lb cb, .int .i64 cols] W fun e w' => e = .returned (.bool (isSys ms vs cols)) ∧ Below W.heap.size W w' := by
  have HS := Lib.hid hs
  have HL := Lib.hid hs.1
  have hlen : len ≤ 1048576 := by unfold SmallM at hsm; have := hs.1; omega
  have HSM := Lib.hid hsm
  have HV := Lib.hid hs2
  have HVL := Lib.hid hs2.1
  obtain ⟨r, hr⟩ : ∃ r, r = isSys ms vs cols := ⟨_, rfl⟩
  rw [← hr]
  have HR := Lib.hid hr
  clear hs hsm hs2 hr
  go_enter Try.func102, Try.ntmps102
  go_wp2
  go_loopw [7] (fun i wr => ∃ k : Nat, k ≤ lb ∧ i = .int .i64 k ∧ Hid (∀ j, j < k → inR (vs.getD j 0) (-1000) 1000 = true) ∧ Below W.heap.size W wr) (fun i _ => lb - (intOf i).toNat)
  case atStart => exact ⟨0, Nat.zero_le _, rfl, Lib.hid (fun j hj => by omega), Below.refl _ _⟩
  case round =>
    obtain ⟨k, hk, rfl, HA, hb⟩ := hrel
    have HB := Lib.hid hb
    by_cases hlt : k < lb
    · rcases HV.out.2.2 with h0 | ⟨b2, o2, rfl, hb2, hc2⟩
      · omega
      · have hcc := (hb.cell (p := ⟨b2, o2 + k, none⟩) hb2).trans (hc2 k hlt)
        obtain ⟨x, hx⟩ : ∃ x, x = vs.getD k 0 := ⟨_, rfl⟩
        rw [← hx] at hcc
        have HX := Lib.hid hx
        clear hc2 hb hx
        cases hin : inR x (-1000) 1000
        · have HE : Hid (r = false) := Lib.hid (HR.out.trans (isSys_sums (i := k) (by rw [HVL.out]; exact hlt) (by rw [← HX.out]; exact hin)))
          have HIN := Lib.hid hin
          clear hin
          go_wp2_with (go_at_call 52; refine (l1In_any _ _ _ _).mono ?_; rw [HIN.out]; rintro e w' ⟨rfl, rfl⟩)
          go_ret
          exact ⟨ret_bool HE.out.symm, HB.out⟩
        · have HIN := Lib.hid hin
          clear hin
          go_wp2_with (go_at_call 52; refine (l1In_any _ _ _ _).mono ?_; rw [HIN.out]; rintro e w' ⟨rfl, rfl⟩)
          go_roundw
          case rel => exact ⟨k + 1, by omega, by go_num, Lib.hid (fun j hj => by rcases Nat.lt_or_eq_of_le (Nat.lt_succ_iff.1 hj) with h | h; exact HA.out j h; subst h; rw [← HX.out]; exact HIN.out), HB.out⟩
          case measure => simp [intOf]; omega
    · obtain rfl : k = lb := by omega
      have HOK := Lib.hid (sumsOk_of (vs := vs) (fun i hi => HA.out i (by rw [← HVL.out]; exact hi)))
      clear hb
      cases hmat : isMat ms cols
      · have HE : Hid (r = false) := Lib.hid (HR.out.trans (isSys_mat hmat))
        have HM := Lib.hid hmat
        clear hmat
        go_wp2_with (go_at_call 54; refine (specIsM_any _ _ _ _ ms cols HSM.out hn hm (HS.out.below HB.out)).mono ?_; rw [HM.out]; rintro e w2 ⟨rfl, hb2⟩; have HB2 := Lib.hid (below_up HB.out hb2 (Nat.le_refl _)); clear hb2)
        go_ret
        exact ⟨ret_bool HE.out.symm, HB2.out⟩
      · have HM := Lib.hid hmat
        have HE : Hid (r = decide (k = len)) := Lib.hid (by rw [HR.out, isSys_len HOK.out hmat, HVL.out, HL.out])
        clear hmat
        by_cases he : k = len
        · have HF : Hid (r = true) := Lib.hid (by rw [HE.out, decide_eq_true he])
          subst he
          go_wp2_with (go_at_call 54; refine (specIsM_any _ _ _ _ ms cols HSM.out hn hm (HS.out.below HB.out)).mono ?_; rw [HM.out]; rintro e w2 ⟨rfl, hb2⟩; have HB2 := Lib.hid (below_up HB.out hb2 (Nat.le_refl _)); clear hb2)
          go_ret
          exact ⟨ret_bool HF.out.symm, HB2.out⟩
        · have HF : Hid (r = false) := Lib.hid (by rw [HE.out, decide_eq_false he])
          have hei : ¬ (k : Int) = (len : Int) := by omega
          have heb : ((k : Int) == (len : Int)) = false := beq_eq_false_iff_ne.2 hei
          go_wp2_with (go_at_call 54; refine (specIsM_any _ _ _ _ ms cols HSM.out hn hm (HS.out.below HB.out)).mono ?_; rw [HM.out]; rintro e w2 ⟨rfl, hb2⟩; have HB2 := Lib.hid (below_up HB.out hb2 (Nat.le_refl _)); clear hb2)
          go_ret
          exact ⟨ret_bool HF.out.symm, HB2.out⟩
end Go.Proofs.Ytedkeobhcpbigaa
/- Systems: the model's rows, and whether they are solvable. -/
namespace Go.Proofs.Ytedkeobhcpbigaa
open Go.RowKit
/-- A row of the call's own goes behind held rows, at a step of a region that draws its order. -/
theorem step_append_hold {P : Program} {w : World} {ops : Array Oper} {o : Oper} {act : Act} {K : Act → World → Prop} {Q : Exit → Act → World → Prop} {E : Prop} (hgd : o.guard = none) (s x : Operand) (t : TypeId)
    (ho : o.op = .call { callee := .builtin .append, args := #[s, x], argTypes := #[t, t] }) (i : TypeInfo) (ht : P.underlying t = some (.slice 25)) (hi : P.info? 25 = some i)
    (hz : i.zero = some (.slice none 0 0)) (hsize : i.size = 1) (hby : i.bytes = 24) (a1 : Option Addr) (len1 cap1 : Nat) (hsv : act.eval s = .slice a1 len1 cap1) (b : Nat) (hxv : act.eval x = .slice (some ⟨b, 0, none⟩) 1 1) (ms : List (List Int)) (lo : Nat) (hold : HoldM w lo a1 len1 cap1 ms)
    (ar : Option Addr) (cr : Nat) (z : List Int) (hc : w.cell? ⟨b, 0, none⟩ = some (.slice ar z.length cr)) (hs : Sees .i64 w ar z.length z) (h1 : z.length ≤ cr) (h2 : cr ≤ maxLen)
    (ha : ∀ x, ar = some x → (lo ≤ x.block ∧ x.block < w.heap.size) ∧ ∀ y, a1 = some y → x.block ≠ y.block) (h63 : len1 + 1 ≤ 1073741824) (hlo : lo ≤ w.heap.size)
    (h : ∀ g cap' w', HoldM w' lo (some ⟨g, 0, none⟩) (len1 + 1) cap' (ms ++ [z]) → Below lo w w' → K (act.put o.dst (.slice (some ⟨g, 0, none⟩) (len1 + 1) cap')) w') :
    if Region.wanted o (yielded ops act.tmps) = true then Oper.wp P o act w K Q else E := by
  have hw : Region.wanted o (yielded ops act.tmps) = true := by simp [Region.wanted, hgd]
  rw [if_pos hw]
  obtain ⟨g, cap', w', hr, k1, k2, _, _⟩ := run_append_hold (P := P) w t o.type i ht hi hz hsize hby a1 len1 cap1 ms lo hold b ar cr z hc hs h1 h2 ha h63 hlo
  unfold Oper.wp execOp
  simp only [ho, resolve, invoke, builtin, Sem.run_bind, Sem.run_pure, Result.andThen_ok, List.map_toArray, List.map_cons, List.map_nil, hsv, hxv, hr]
  exact h g cap' w' k1 k2
theorem SeesF.wide {w : World} {lo lo2 hi : Nat} {a : Option Addr} {len : Nat} {ms : List (List Int)} (h : SeesF w lo hi a len ms) (hl : lo2 ≤ lo) : SeesF w lo2 hi a len ms := by
  refine ⟨h.1, fun r hr => ?_⟩
  obtain ⟨b, off, ar, cr, ha, hb, hh, hc, h1, h2, h3, h4⟩ := h.2 r hr
  exact ⟨b, off, ar, cr, ha, ⟨Nat.le_trans hl hb.1, hb.2⟩, hh, hc, h1, h2, h3, fun x hx => ⟨Nat.le_trans hl (h4 x hx).1, (h4 x hx).2⟩⟩
theorem take_aug {ms : List (List Int)} {vs : List Int} {k : Nat} (h : k < ms.length) : (augL ms vs).take k ++ [row ms k ++ [vec vs k]] = (augL ms vs).take (k + 1) := by
  rw [List.take_succ_eq_append_getElem (by rw [augL_len]; exact h)]
  congr 2
  simp [augL]
set_option maxRecDepth 20000 in
set_option maxHeartbeats 1600000 in
theorem specRows6_any (W : World) (a : Option Addr) (len cap : Nat) (ms : List (List Int)) (b : Option Addr) (lb cb : Nat) (vs : List Int) (q : Nat) (hok : AugOk q ms vs) (hs : SeesM W a len ms) (hs2 : Sees .i64 W b lb vs) :
    Calls Try.prog 95 #[.slice a len cap, .slice b lb cb, .int .i64 (q : Int)] W (SeenM (redA ms vs q) W) := by
  have HS := Lib.hid hs
  have HL := Lib.hid hs.1
  have HF := Lib.hid hok
  have hl : len ≤ 12 := by have := hok.fine.len; rw [augL_len] at this; have := hs.1; omega
  have hlb : lb = len := by have := hok.len; have := hs.1; have := hs2.1; omega
  subst hlb
  have HV := Lib.hid hs2
  clear hs hs2 hok
  obtain ⟨i0, hi, hz0, hz1, hz2⟩ := info_parts info_row
  obtain ⟨i1, hj, hy0, hy1, hy2⟩ := info_parts info_i64
  go_enter Try.func95, Try.ntmps95
  go_wp2_with fail
  go_loopw [7, 8] (fun v i wr => ∃ (k : Nat) (a' : Option Addr) (c' : Nat), k ≤ lb ∧ i = .int .i64 k ∧ v = .slice a' k c' ∧ HoldM wr W.heap.size a' k c' ((augL ms vs).take k) ∧ Below W.heap.size W wr) (fun _ i _ => lb - (intOf i).toNat)
  case atStart => exact ⟨0, _, _, Nat.zero_le _, rfl, rfl, hold_nil _, (Below.refl _ _).alloc (Nat.le_refl _) _⟩
  case round =>
    obtain ⟨k, a', c', hk, rfl, rfl, ho, hb⟩ := hrel
    have HO := Lib.hid ho
    have HB := Lib.hid hb
    have hsz := hb.size
    by_cases hlt : k < lb
    · obtain ⟨bo, off, ar, cr, rfl, hbl, hc, _, _, hsr⟩ := HS.out.2 k hlt
      have hcw := (hb.cell (p := ⟨bo, off + k, none⟩) hbl).trans hc
      obtain ⟨zs, hzs⟩ : ∃ zs, zs = row ms k := ⟨_, rfl⟩
      rw [← hzs] at hcw hsr
      have hkm : k < ms.length := by rw [HL.out]; exact hlt
      have hzl : zs.length ≤ 6 := by have h1 := HF.out.wid k hkm; have h2 := HF.out.fine.q6; rw [← hzs] at h1; omega
      have HN := Lib.hid (take_aug (vs := vs) hkm)
      rw [← hzs] at HN
      have HSR := Lib.hid (hsr.below hb)
      rcases HV.out.2.2 with h0 | ⟨b2, o2, rfl, hb2, hc2⟩
      · omega
      · have hcv := (hb.cell (p := ⟨b2, o2 + k, none⟩) hb2).trans (hc2 k hlt)
        have hxw := HV.out.2.1 _ (getD_mem (l := vs) (j := k) (by rw [HV.out.1]; exact hlt))
        obtain ⟨x, hx⟩ : ∃ x, x = vs.getD k 0 := ⟨_, rfl⟩
        rw [← hx] at hcv hxw
        have HXV : Hid (vec vs k = x) := Lib.hid hx.symm
        have HXW := Lib.hid hxw
        have HC0 : Hid (W.cell? ⟨bo, off + k, none⟩ = some (.slice ar zs.length cr)) := Lib.hid (by rw [hzs]; exact hc)
        have HC1 : Hid (W.cell? ⟨b2, o2 + k, none⟩ = some (.int .i64 x)) := Lib.hid (by rw [hx]; exact hc2 k hlt)
        obtain ⟨z5, hz5⟩ : ∃ z, z = zs ++ [x] := ⟨_, rfl⟩
        have HZ5 := Lib.hid hz5
        have i0k : (0 : Int) ≤ (k : Int) := by omega
        have i1k : (k : Int) < (lb : Int) := by omega
        have HN2 : Hid (Own .i64 3 ((wr.alloc (.cells #[.int .i64 x] 3)).alloc (.cells #[] 3)) (wr.heap.size + 1) (wr.heap.size + 1 + 1) (some ⟨wr.heap.size + 1, 0, none⟩) 0 0 []) := Lib.hid (by
          have h := own_nil .i64 3 (wr.alloc (.cells #[.int .i64 x] 3))
          rw [World.size_alloc] at h
          exact h)
        have HS2 : Hid (Sees .i64 ((wr.alloc (.cells #[] 3)).alloc (.cells #[.int .i64 x] 3)) (some ⟨wr.heap.size + 1, 0, none⟩) 1 [x]) := Lib.hid (by
          have h := sees_one hxw (wr.alloc (.cells #[] 3)) 3
          rw [World.size_alloc] at h
          exact h)
        clear hc hsr hzs ho hb hc2 hx hxw hz5
        go_wp2_with fail
        go_region_held3 (fun w' => w'.cell? ⟨bo, off + k, none⟩ = some (.slice ar zs.length cr) ∧ w'.cell? ⟨b2, o2 + k, none⟩ = some (.int .i64 x)) (go_keep) (first
          | (refine step_append_hold rfl _ _ 24 rfl i0 Try.underlying24 hi hz0 hz1 hz2 _ _ _ rfl w5.heap.size rfl _ W.heap.size ((HO.out.below G5.out).below ((Below.refl _ _).alloc (Nat.le_refl _) _)) a5 cap5 z5 (by simp) (HO5.out.sees.alloc _) HO5.out.cap HO5.out.capMax (fun x hx => ⟨by have := HO5.out.2.2.2.2 x hx; simp; omega, fun y hy => by have h1 := (HO.out.outer hy).1; have h2 := HO5.out.2.2.2.2 x hx; omega⟩) (by omega) (by have := G5.out.size; simp; omega) ?_; intro g6 c6 w6 ho6 hb6; have HO6 := Lib.hid ho6; have HB6 := Lib.hid (((G5.out.mono hsz).alloc (by have := G5.out.size; omega) _).trans hb6); have k1 := ((HB.out.trans HB6.out).cell (p := ⟨bo, off + k, none⟩) hbl).trans HC0.out; have k2 := ((HB.out.trans HB6.out).cell (p := ⟨b2, o2 + k, none⟩) hb2).trans HC1.out; clear ho6 hb6)
          | (refine step_append_sees rfl _ _ 25 rfl 3 i1 .i64 8 Try.underlying25 hj hy0 hy1 hy2 _ _ _ _ rfl _ _ HO4.out _ 1 1 [x] rfl HX4.out (by unfold maxLen; omega) (by omega) (by have := G4.out.size; simp; omega) ?_; intro a5 len5 cap5 w5 hlen5 ho5 hm5; clear hlen5; rw [← HZ5.out] at ho5; have hl5 := ho5.1; subst hl5; have HO5 := Lib.hid ho5; have G5 := Lib.hid (below_moved G4.out hm5 (Nat.le_refl _) (Nat.le_refl _)); have k1 := ((HB.out.trans (G5.out.mono hsz)).cell (p := ⟨bo, off + k, none⟩) hbl).trans HC0.out; have k2 := ((HB.out.trans (G5.out.mono hsz)).cell (p := ⟨b2, o2 + k, none⟩) hb2).trans HC1.out; clear ho5 hm5)
          | (refine step_append_sees rfl _ _ 25 rfl 3 i1 .i64 8 Try.underlying25 hj hy0 hy1 hy2 _ _ _ _ rfl _ _ (HO4.out.alloc _) _ 1 1 [x] rfl (sees_one HXW.out _ _) (by unfold maxLen; omega) (by omega) (by have := G4.out.size; simp; omega) ?_; intro a5 len5 cap5 w5 hlen5 ho5 hm5; clear hlen5; rw [← HZ5.out] at ho5; have hl5 := ho5.1; subst hl5; have HO5 := Lib.hid ho5; have G5 := Lib.hid (below_moved (G4.out.alloc G4.out.size _) hm5 (Nat.le_refl _) (Nat.le_refl _)); have k1 := ((HB.out.trans (G5.out.mono hsz)).cell (p := ⟨bo, off + k, none⟩) hbl).trans HC0.out; have k2 := ((HB.out.trans (G5.out.mono hsz)).cell (p := ⟨b2, o2 + k, none⟩) hb2).trans HC1.out; clear ho5 hm5)
          | (refine step_append_sees rfl _ _ 25 rfl 3 i1 .i64 8 Try.underlying25 hj hy0 hy1 hy2 _ _ _ _ rfl _ _ ((own_nil _ _ _).below (Below.refl _ _).drew) _ _ _ zs rfl ((HSR.out.alloc _).below (Below.refl _ _).drew) (by unfold maxLen; omega) (by omega) (by simp <;> omega) ?_; intro a4 len4 cap4 w4 hlen4 ho4 hm4; have hl4 : len4 ≤ 6 := (by omega); clear hlen4; rw [List.nil_append] at ho4; have HO4 := Lib.hid (ho4.wide (lo2 := wr.heap.size) (by simp <;> omega) (Nat.le_refl _) (Nat.le_refl _)); have G4 := Lib.hid (below_moved (((Below.refl wr.heap.size wr).alloc (Nat.le_refl _) _).drew) hm4 (Nat.le_refl _) (by simp <;> omega)); have k1 := ((HB.out.trans (G4.out.mono hsz)).cell (p := ⟨bo, off + k, none⟩) hbl).trans HC0.out; have k2 := ((HB.out.trans (G4.out.mono hsz)).cell (p := ⟨b2, o2 + k, none⟩) hb2).trans HC1.out; clear ho4 hm4)
          | (refine step_append_sees rfl _ _ 25 rfl 3 i1 .i64 8 Try.underlying25 hj hy0 hy1 hy2 _ _ _ _ rfl _ _ (((own_nil .i64 3 wr).alloc (.cells #[.int .i64 x] 3)).below (Below.refl _ _).drew) _ _ _ zs rfl (((HSR.out.alloc (.cells #[] 3)).alloc (.cells #[.int .i64 x] 3)).below (Below.refl _ _).drew) (by unfold maxLen; omega) (by omega) (by simp <;> omega) ?_; intro a4 len4 cap4 w4 hlen4 ho4 hm4; have hl4 : len4 ≤ 6 := (by omega); clear hlen4; rw [List.nil_append] at ho4; have HO4 := Lib.hid (ho4.wide (lo2 := wr.heap.size) (by simp <;> omega) (Nat.le_refl _) (Nat.le_refl _)); have HX4 := Lib.hid ((HS2.out.below (Below.refl _ _).drew).moved hm4 (fun y hy => by cases hy; simp <;> omega)); have G4 := Lib.hid (below_moved ((((Below.refl wr.heap.size wr).alloc (Nat.le_refl _) _).alloc (by simp) _).drew) hm4 (Nat.le_refl _) (by simp <;> omega)); have k1 := ((HB.out.trans (G4.out.mono hsz)).cell (p := ⟨bo, off + k, none⟩) hbl).trans HC0.out; have k2 := ((HB.out.trans (G4.out.mono hsz)).cell (p := ⟨b2, o2 + k, none⟩) hb2).trans HC1.out; clear ho4 hm4)
          | (refine step_append_sees rfl _ _ 25 rfl 3 i1 .i64 8 Try.underlying25 hj hy0 hy1 hy2 _ _ _ _ rfl _ _ (HN2.out.below (Below.refl _ _).drew) _ _ _ zs rfl (((HSR.out.alloc (.cells #[.int .i64 x] 3)).alloc (.cells #[] 3)).below (Below.refl _ _).drew) (by unfold maxLen; omega) (by omega) (by simp <;> omega) ?_; intro a4 len4 cap4 w4 hlen4 ho4 hm4; have hl4 : len4 ≤ 6 := (by omega); clear hlen4; rw [List.nil_append] at ho4; have HO4 := Lib.hid (ho4.wide (lo2 := wr.heap.size) (by simp <;> omega) (Nat.le_refl _) (Nat.le_refl _)); have HX4 := Lib.hid ((((sees_one HXW.out wr 3).alloc (.cells #[] 3)).below (Below.refl _ _).drew).moved hm4 (fun y hy => by cases hy; simp <;> omega)); have G4 := Lib.hid (below_moved ((((Below.refl wr.heap.size wr).alloc (Nat.le_refl _) _).alloc (by simp) _).drew) hm4 (Nat.le_refl _) (by simp <;> omega)); have k1 := ((HB.out.trans (G4.out.mono hsz)).cell (p := ⟨bo, off + k, none⟩) hbl).trans HC0.out; have k2 := ((HB.out.trans (G4.out.mono hsz)).cell (p := ⟨b2, o2 + k, none⟩) hb2).trans HC1.out; clear ho4 hm4))
        all_goals
          go_wp2
          go_roundw
          case rel => exact ⟨k + 1, _, _, by omega, by go_num, rfl, by have h := HO6.out; rw [HZ5.out, ← HXV.out, HN.out] at h; exact h, HB.out.trans HB6.out⟩
          case measure => simp [intOf]; omega
    · obtain rfl : k = lb := by omega
      have HO1 : Hid (HoldM wr W.heap.size a' k c' (augL ms vs)) := Lib.hid (by have h := ho; rw [List.take_of_length_le (by rw [augL_len, HL.out]; exact Nat.le_refl _)] at h; exact h)
      clear ho hb
      go_wp2_with (go_at_call 92; refine (specReduce_any _ a' k c' (augL ms vs) (q + 1) q HF.out.fine HO1.out.sees).mono ?_; rintro e w2 ⟨a2, l2, c2, rfl, ho2, hl2, hm2, hb2⟩; have HO2 := Lib.hid (ho2.wide (lo2 := W.heap.size) hsz); have HL2 := Lib.hid hl2; have HM2 := Lib.hid hm2; have HB2 := Lib.hid (below_up HB.out hb2 (Nat.le_refl _)); clear ho2 hb2 hl2 hm2)
      go_ret
      exact ⟨_, _, _, rfl, HO2.out, HL2.out, HM2.out, HB2.out⟩
end Go.Proofs.Ytedkeobhcpbigaa
/- Systems: whether they are solvable, the model's. -/
namespace Go.Proofs.Ytedkeobhcpbigaa
open Go.RowKit
theorem goodB_yes {rows : List (List Int)} {q : Nat} (h : ∀ i, i < rows.length → leadL (row rows i) ≠ q) : goodB rows q = true := by
  refine List.all_eq_true.2 fun r hr => ?_
  obtain ⟨i, hi, rfl⟩ := List.mem_iff_getElem.1 hr
  have := h i hi
  simpa [row, List.getD, hi] using this
set_option maxRecDepth 20000 in
set_option maxHeartbeats 800000 in
theorem specGood_any (W : World) (a : Option Addr) (len cap : Nat) (rows : List (List Int)) (q : Nat) (hl : len ≤ 1048576) (hq : q ≤ 6) (hw : ∀ i, i < len → (row rows i).length ≤ 1048576) (hs : SeesM W a len rows) :
    Calls Try.prog 103 #[.slice a len cap, .int .i64 (q : Int)] W fun e w' => e = .returned (.bool (goodB rows q)) ∧ Below W.heap.size W w' := by
  have HS := Lib.hid hs
  have HL := Lib.hid hs.1
  have HW := Lib.hid hw
  obtain ⟨r, hr⟩ : ∃ r, r = goodB rows q := ⟨_, rfl⟩
  rw [← hr]
  have HR := Lib.hid hr
  clear hs hw hr
  go_enter Try.func103, Try.ntmps103
  go_wp2
  go_loopw [5] (fun i wr => ∃ k : Nat, k ≤ len ∧ i = .int .i64 k ∧ Hid (∀ j, j < k → leadL (row rows j) ≠ q) ∧ Below W.heap.size W wr) (fun i _ => len - (intOf i).toNat)
  case atStart => exact ⟨0, Nat.zero_le _, rfl, Lib.hid (fun j hj => by omega), Below.refl _ _⟩
  case round =>
    obtain ⟨k, hk, rfl, HA, hb⟩ := hrel
    have HB := Lib.hid hb
    by_cases hlt : k < len
    · obtain ⟨bo, off, ar, cr, rfl, hbl, hc, _, _, hsr⟩ := HS.out.2 k hlt
      have hcw := (hb.cell (p := ⟨bo, off + k, none⟩) hbl).trans hc
      have hzl := HW.out k hlt
      obtain ⟨zs, hzs⟩ : ∃ zs, zs = row rows k := ⟨_, rfl⟩
      rw [← hzs] at hcw hsr hzl
      have HSR := Lib.hid (hsr.below hb)
      have HZ := Lib.hid hzs
      obtain ⟨d, hd⟩ : ∃ d, d = leadL zs := ⟨_, rfl⟩
      have HD := Lib.hid hd
      clear hc hsr hzs hb hd
      by_cases he : d = q
      · have HE : Hid (r = false) := Lib.hid (HR.out.trans (goodB_false (i := k) (by rw [HL.out]; exact hlt) (by rw [← HZ.out, ← HD.out, he])))
        subst he
        go_wp2_with (go_at_call 78; refine (specLead_any _ _ _ _ zs (by omega) HSR.out).mono ?_; rw [← HD.out]; rintro e w' ⟨rfl, rfl⟩)
        go_ret
        exact ⟨ret_bool HE.out.symm, HB.out⟩
      · have hei : ¬ (d : Int) = (q : Int) := by omega
        have heb : ((d : Int) == (q : Int)) = false := beq_eq_false_iff_ne.2 hei
        have HEN := Lib.hid he
        go_wp2_with (go_at_call 78; refine (specLead_any _ _ _ _ zs (by omega) HSR.out).mono ?_; rw [← HD.out]; rintro e w' ⟨rfl, rfl⟩)
        go_roundw
        case rel => exact ⟨k + 1, by omega, by go_num, Lib.hid (fun j hj => by rcases Nat.lt_or_eq_of_le (Nat.lt_succ_iff.1 hj) with h | h; exact HA.out j h; subst h; rw [← HZ.out, ← HD.out]; exact HEN.out), HB.out⟩
        case measure => simp [intOf]; omega
    · clear hb
      have HE : Hid (r = true) := Lib.hid (HR.out.trans (goodB_yes fun i hi => HA.out i (by rw [HL.out] at hi; omega)))
      go_wp2
      go_ret
      exact ⟨ret_bool HE.out.symm, HB.out⟩
theorem redA_len {q : Nat} {ms : List (List Int)} {vs : List Int} (h : AugOk q ms vs) : (redA ms vs q).length = ms.length := by
  have := (h.fine.inv (Nat.le_refl q)).len
  rw [augL_len] at this
  exact this
theorem redA_wid {q : Nat} {ms : List (List Int)} {vs : List Int} (h : AugOk q ms vs) {i : Nat} (hi : i < ms.length) : (row (redA ms vs q) i).length = q + 1 := by
  have := (h.fine.inv (Nat.le_refl q)).wid i (by rw [augL_len]; exact hi)
  exact this
theorem solv_no {ms : List (List Int)} {vs : List Int} {cols : Int} (h : isSys ms vs cols = false) : solvB ms vs cols = false := by unfold solvB; rw [h]; rfl
theorem solv_yes {ms : List (List Int)} {vs : List Int} {q : Nat} (h : isSys ms vs (q : Int) = true) : solvB ms vs (q : Int) = goodB (redA ms vs q) q := by unfold solvB; rw [h, Int.toNat_natCast]; rfl
theorem sys_nat {ms : List (List Int)} {vs : List Int} {cols : Int} (h : isSys ms vs cols = true) : ∃ q : Nat, cols = q := ⟨cols.toNat, by have := (isMat_true (isSys_true h).2.1).1; omega⟩
set_option maxRecDepth 20000 in
set_option maxHeartbeats 800000 in
theorem specSolv_any (W : World) (a : Option Addr) (len cap : Nat) (ms : List (List Int)) (b : Option Addr) (lb cb : Nat) (vs : List Int) (cols : Int) (hsm : SmallM ms) (hs : SeesM W a len ms) (hl : lb ≤ 1073741824) (hs2 : Sees .i64 W b lb vs) (hn : -9223372036854775808 ≤ cols) (hm : cols ≤ 9223372036854775807) :
    Calls Try.prog 94 #[.slice a len cap, .slice b lb cb, .int .i64 cols] W fun e w' => e = .returned (.bool (solvB ms vs cols)) ∧ Below W.heap.size W w' := by
  have HS := Lib.hid hs
  have HSM := Lib.hid hsm
  have HV := Lib.hid hs2
  obtain ⟨r, hr⟩ : ∃ r, r = solvB ms vs cols := ⟨_, rfl⟩
  rw [← hr]
  have HR := Lib.hid hr
  clear hs hsm hs2 hr
  cases hsys : isSys ms vs cols
  · have HE : Hid (r = false) := Lib.hid (HR.out.trans (solv_no hsys))
    have HY := Lib.hid hsys
    clear hsys
    go_enter Try.func94, Try.ntmps94
    go_wp2_with (go_at_call 102; refine (specIsSys_any _ _ _ _ ms _ _ _ vs cols HSM.out HS.out hl HV.out hn hm).mono ?_; rw [HY.out]; rintro e w1 ⟨rfl, hb1⟩; have HB1 := Lib.hid hb1; clear hb1)
    go_ret
    exact ⟨ret_bool HE.out.symm, HB1.out⟩
  · obtain ⟨q, rfl⟩ := sys_nat hsys
    have HE := Lib.hid (HR.out.trans (solv_yes hsys))
    have HOK := Lib.hid (aug_ok hsys)
    have hq6 : q ≤ 6 := HOK.out.fine.q6
    have hl12 : ms.length ≤ 12 := by have := HOK.out.fine.len; rw [augL_len] at this; exact this
    have HY := Lib.hid hsys
    clear hsys
    go_enter Try.func94, Try.ntmps94
    go_wp2_with (first
      | (go_at_call 103; refine (specGood_any _ a2 l2 c2 (redA ms vs q) q hl2 hq6 HWD.out HO2.out.sees).mono ?_; rintro e w3 ⟨rfl, hb3⟩; have HB3 := Lib.hid (below_up HB2.out hb3 (Nat.le_refl _)); clear hb3)
      | (go_at_call 95; refine (specRows6_any _ _ _ _ ms _ _ _ vs q HOK.out (HS.out.below HB1.out) (HV.out.below HB1.out)).mono ?_; rintro e w2 ⟨a2, l2, c2, rfl, ho2, _, _, hb2⟩; have hl2' := ho2.1; have hl2 : l2 ≤ 1048576 := (by rw [redA_len HOK.out] at hl2'; omega); have HWD : Hid (∀ i, i < l2 → (row (redA ms vs q) i).length ≤ 1048576) := Lib.hid (fun i hi => by rw [redA_wid HOK.out (by rw [redA_len HOK.out] at hl2'; omega)]; omega); have HO2 := Lib.hid ho2; have HB2 := Lib.hid (below_up HB1.out hb2 (Nat.le_refl _)); clear ho2 hb2 hl2')
      | (go_at_call 102; refine (specIsSys_any _ _ _ _ ms _ _ _ vs (q : Int) HSM.out HS.out hl HV.out (by omega) (by omega)).mono ?_; rw [HY.out]; rintro e w1 ⟨rfl, hb1⟩; have HB1 := Lib.hid hb1; clear hb1))
    go_ret
    exact ⟨ret_bool HE.out.symm, HB3.out⟩
end Go.Proofs.Ytedkeobhcpbigaa
/- Systems: the model's solution. -/
namespace Go.Proofs.Ytedkeobhcpbigaa
open Go.RowKit
/-- Fractions of the call's own, and whether they are a solution. -/
def MadeSol (xs : List (Int × Int)) (ok : Bool) (W : World) (e : Ending) (w' : World) : Prop :=
  ∃ a len cap, e = .returned (.tuple #[.slice a len cap, .bool ok]) ∧ OwnR w' W.heap.size w'.heap.size a len cap xs ∧ Below W.heap.size W w'
theorem solL_no {ms : List (List Int)} {vs : List Int} {cols : Int} (h : solvB ms vs cols = false) : solL ms vs cols = [] := by unfold solL; rw [h]; rfl
theorem solL_yes {ms : List (List Int)} {vs : List Int} {q : Nat} (h : solvB ms vs (q : Int) = true) : solL ms vs (q : Int) = solAt (redA ms vs q) q (redA ms vs q).length := by unfold solL; rw [if_pos h, Int.toNat_natCast]
theorem solv_sys {ms : List (List Int)} {vs : List Int} {cols : Int} (h : solvB ms vs cols = true) : isSys ms vs cols = true := by
  unfold solvB at h
  exact (Bool.and_eq_true _ _ ▸ h).1
theorem solv_good {ms : List (List Int)} {vs : List Int} {q : Nat} (h : solvB ms vs (q : Int) = true) : ∀ i, i < ms.length → leadL (row (redA ms vs q) i) ≠ q := fun i hi => by
  have hs := solv_sys h
  rw [solv_yes hs] at h
  exact goodB_true h (by rw [redA_len (aug_ok hs)]; exact hi)
/-- What the walk needs of a reduced row that begins ahead of the values. -/
structure RowAt (q : Nat) (z : List Int) (d : Nat) : Prop where
  len : z.length = q + 1
  lead : leadL z = d
  lt : d < q
  n0 : -2000000000 ≤ vec z q
  n1 : vec z q ≤ 2000000000
  d0 : -2000000000 ≤ vec z d
  d1 : vec z d ≤ 2000000000
  ok : MkOk (vec z q) (vec z d)
theorem row_at {ms : List (List Int)} {vs : List Int} {q : Nat} (h : solvB ms vs (q : Int) = true) {i : Nat} (hi : i < ms.length) (hl : leadL (row (redA ms vs q) i) < q) : RowAt q (row (redA ms vs q) i) (leadL (row (redA ms vs q) i)) := by
  have hok := aug_ok (solv_sys h)
  obtain ⟨r, c, o, hA⟩ := aug_red hok
  have he := hA.el
  have hq6 := hok.fine.q6
  have hrk := he.rk
  have hir : i < r := by
    rcases Nat.lt_or_ge i r with h1 | h1
    · exact h1
    · have := hA.rest i h1 hi; omega
  have hsm := hok.fine.small
  have hft := hok.fine.fit
  rw [augL_len] at hsm hft
  have hb : ∀ j, j < q + 1 → -2000000000 ≤ vec (row (redA ms vs q) i) j ∧ vec (row (redA ms vs q) i) j ≤ 2000000000 := fun j hj => by
    have := he.bound1 (N := 1000) hsm hj (fun i hi => hft i hi j) hir (by omega)
    omega
  have h1 := hb q (by omega)
  have h2 := hb (leadL (row (redA ms vs q) i)) (by omega)
  exact ⟨redA_wid hok hi, rfl, hl, h1.1, h1.2, h2.1, h2.2, (hA.solved (solv_good h)).1 i hi hl⟩
theorem repl_snoc (k : Nat) (p : Int × Int) : List.replicate k p ++ [p] = List.replicate (k + 1) p := by
  rw [List.replicate_succ']
theorem mk_wf {n d : Int} (h : MkOk n d) : (Lit.int .i64 (mkN n d)).wf = true ∧ (Lit.int .i64 (mkD n d)).wf = true := by
  obtain ⟨a, b, c, e, _⟩ := mk_valid h
  exact ⟨WalkArith.wf_i64 (by omega), WalkArith.wf_i64 (by omega)⟩
theorem solAt_skip {rows : List (List Int)} {q i : Nat} (h : ¬ leadL (row rows i) < q) : solAt rows q (i + 1) = solAt rows q i := by rw [solAt, if_neg h]
theorem solAt_put {rows : List (List Int)} {q i : Nat} (h : leadL (row rows i) < q) : solAt rows q (i + 1) = (solAt rows q i).set (leadL (row rows i)) (mkN (vec (row rows i) q) (vec (row rows i) (leadL (row rows i))), mkD (vec (row rows i) q) (vec (row rows i) (leadL (row rows i)))) := by rw [solAt, if_pos h]
set_option maxRecDepth 20000 in
set_option maxHeartbeats 3200000 in
theorem specSol_any (W : World) (a : Option Addr) (len cap : Nat) (ms : List (List Int)) (b : Option Addr) (lb cb : Nat) (vs : List Int) (cols : Int) (hsm : SmallM ms) (hs : SeesM W a len ms) (hl : lb ≤ 1073741824) (hs2 : Sees .i64 W b lb vs) (hn : -9223372036854775808 ≤ cols) (hm : cols ≤ 9223372036854775807) :
    Calls Try.prog 80 #[.slice a len cap, .slice b lb cb, .int .i64 cols] W (MadeSol (solL ms vs cols) (solvB ms vs cols) W) := by
  have HS := Lib.hid hs
  have HSM := Lib.hid hsm
  have HV := Lib.hid hs2
  clear hs hsm hs2
  obtain ⟨i0, hi, hz0, hz1, hz2⟩ := info_parts info_rat
  cases hsol : solvB ms vs cols
  · have HE := Lib.hid (solL_no hsol)
    have HY := Lib.hid hsol
    clear hsol
    go_enter Try.func80, Try.ntmps80
    go_wp2_with (go_at_call 94; refine (specSolv_any _ _ _ _ ms _ _ _ vs cols HSM.out HS.out hl HV.out hn hm).mono ?_; rw [HY.out]; rintro e w1 ⟨rfl, hb1⟩; have HB1 := Lib.hid hb1; clear hb1)
    go_ret2
    exact ⟨_, _, _, rfl, by rw [HE.out]; exact ownR_empty _ _ HB1.out.size, HB1.out.alloc HB1.out.size _⟩
  · obtain ⟨q, rfl⟩ := sys_nat (solv_sys hsol)
    have HE := Lib.hid (solL_yes hsol)
    have HOK := Lib.hid (aug_ok (solv_sys hsol))
    have hq6 : q ≤ 6 := HOK.out.fine.q6
    have hl12 : ms.length ≤ 12 := by have := HOK.out.fine.len; rw [augL_len] at this; exact this
    have HY := Lib.hid hsol
    obtain ⟨xs, hxs⟩ : ∃ xs, xs = solL ms vs (q : Int) := ⟨_, rfl⟩
    rw [← hxs]
    have HXS := Lib.hid hxs
    clear hsol hxs
    go_enter Try.func80, Try.ntmps80
    go_wp2_with (go_at_call 94; refine (specSolv_any _ _ _ _ ms _ _ _ vs (q : Int) HSM.out HS.out hl HV.out (by omega) (by omega)).mono ?_; rw [HY.out]; rintro e w1 ⟨rfl, hb1⟩; have HB1 := Lib.hid hb1; clear hb1)
    go_loopw [8, 9] (fun v i wr => ∃ (k : Nat) (a' : Option Addr) (c' : Nat), k ≤ q ∧ i = .int .i64 k ∧ v = .slice a' k c' ∧ OwnR wr W.heap.size wr.heap.size a' k c' (List.replicate k (0, 1)) ∧ Below W.heap.size W wr) (fun _ i _ => q - (intOf i).toNat)
    case atStart => exact ⟨0, _, _, Nat.zero_le _, rfl, rfl, ownR_empty _ _ HB1.out.size, HB1.out.alloc HB1.out.size _⟩
    case round =>
      obtain ⟨k, a', c', hk, rfl, rfl, ho, hb⟩ := hrel
      have HO := Lib.hid ho
      have HB := Lib.hid hb
      have hsz := hb.size
      clear ho hb
      by_cases hlt : k < q
      · go_wp2_with (at_builtin; refine wp_append_seesR rfl _ _ 53 rfl i0 Try.underlying53 hi hz0 hz1 hz2 _ _ _ _ rfl _ _ (HO.out.alloc _) _ 1 1 [(0, 1)] rfl (seesR_one (by decide) (by decide) _ _) (by unfold maxLen; omega) (by omega) (by simp; omega) ?_; intro a4 len4 cap4 w4 hlen4 ho4 hm4; subst hlen4; have HO4 := Lib.hid ho4; have HB4 := Lib.hid (below_moved (HB.out.alloc hsz _) hm4 (Nat.le_refl _) (Nat.le_refl _)); clear ho4 hm4)
        go_roundw
        case rel => exact ⟨k + 1, _, _, by omega, by go_num, rfl, by rw [← repl_snoc]; exact HO4.out, HB4.out⟩
        case measure => simp [intOf]; omega
      · obtain rfl : k = q := by omega
        obtain ⟨H0, hH0⟩ : ∃ H0, H0 = wr.heap.size := ⟨_, rfl⟩
        have HH0 := Lib.hid hH0
        have hsz0 : W.heap.size ≤ H0 := by omega
        clear hH0
        go_wp2_with (go_at_call 95; refine (specRows6_any _ _ _ _ ms _ _ _ vs k HOK.out (HS.out.below HB.out) (HV.out.below HB.out)).mono ?_; rintro e w2 ⟨a2, l2, c2, rfl, ho2, _, _, hb2⟩; have hl2' := ho2.1; have hl2 : l2 = ms.length := (by rw [redA_len HOK.out] at hl2'; omega); have HLM := Lib.hid hl2; have HO2 : Hid (SeesF w2 H0 w2.heap.size a2 l2 (redA ms vs k)) := Lib.hid (by rw [HH0.out]; exact ho2); have HB2 := Lib.hid (below_up HB.out hb2 (Nat.le_refl _)); have HX2 : Hid (OwnR w2 W.heap.size H0 a' k c' (List.replicate k (0, 1))) := Lib.hid (by rw [HH0.out]; exact HO.out.below hb2); clear ho2 hb2 hl2' hl2)
        go_loopw [11, 12, 13, 14] (fun i _ _ _ wr => ∃ j : Nat, j ≤ l2 ∧ i = .int .i64 j ∧ OwnR wr W.heap.size H0 a' k c' (solAt (redA ms vs k) k j) ∧ Below W.heap.size W wr ∧ SeesF wr H0 w2.heap.size a2 l2 (redA ms vs k)) (fun i _ _ _ _ => l2 - (intOf i).toNat)
        case atStart => exact ⟨0, Nat.zero_le _, rfl, HX2.out, HB2.out, HO2.out⟩
        case round =>
          obtain ⟨j, hj, rfl, ho, hb, hsee⟩ := hrel
          have HO3 := Lib.hid ho
          have HB3 := Lib.hid hb
          have hsz3 := hb.size
          by_cases hlt : j < l2
          · have hjm : j < ms.length := by rw [← HLM.out]; exact hlt
            obtain ⟨bo, off, ar, cr, rfl, hbl, hc, _, _, hsr⟩ := hsee.sees.2 j hlt
            have hzlen : (row (redA ms vs k) j).length = k + 1 := redA_wid HOK.out hjm
            obtain ⟨z, hz⟩ : ∃ z, z = row (redA ms vs k) j := ⟨_, rfl⟩
            rw [← hz] at hc hsr hzlen
            rw [hzlen] at hc hsr
            have HSR := Lib.hid hsr
            have HZ := Lib.hid hz
            have HSF := Lib.hid hsee
            obtain ⟨d, hd⟩ : ∃ d, d = leadL z := ⟨_, rfl⟩
            have HD := Lib.hid hd
            clear hsr hz hsee ho hb
            by_cases hdk : d < k
            · rcases HO3.out.spot with ⟨_, h00, _⟩ | ⟨g, rfl, _⟩
              · omega
              have hra := row_at HY.out hjm (by rw [← HZ.out, ← hd]; exact hdk)
              rw [← HZ.out, ← hd] at hra
              have HRA := Lib.hid hra
              have hput := solAt_put (rows := redA ms vs k) (q := k) (i := j) (by rw [← HZ.out, ← hd]; exact hdk)
              rw [← HZ.out, ← hd] at hput
              have HPUT0 := Lib.hid hput
              clear hput
              clear hra hd
              rcases HSR.out.2.2 with h00 | ⟨b3, o3, rfl, hb3, hc3⟩
              · omega
              · have hcq := hc3 k (by omega)
                have hcd := hc3 d (by omega)
                obtain ⟨n, hn⟩ : ∃ n, n = z.getD k 0 := ⟨_, rfl⟩
                obtain ⟨m, hm⟩ : ∃ m, m = z.getD d 0 := ⟨_, rfl⟩
                rw [← hn] at hcq
                rw [← hm] at hcd
                have HN := Lib.hid hn
                have HM := Lib.hid hm
                obtain ⟨n0, n1, m0, m1, hmk⟩ : (-4000000000000000000 ≤ n ∧ n ≤ 4000000000000000000 ∧ -4000000000000000000 ≤ m ∧ m ≤ 4000000000000000000 ∧ MkOk n m) := by
                  have h := HRA.out
                  have e1 : vec z k = n := hn.symm
                  have e2 : vec z d = m := hm.symm
                  have h1 := h.n0; have h2 := h.n1; have h3 := h.d0; have h4 := h.d1; have h5 := h.ok
                  rw [e1] at h1 h2 h5
                  rw [e2] at h3 h4 h5
                  exact ⟨by omega, by omega, by omega, by omega, h5⟩
                have hwf := mk_wf hmk
                obtain ⟨x, hx⟩ : ∃ x, x = mkN n m := ⟨_, rfl⟩
                obtain ⟨y, hy⟩ : ∃ y, y = mkD n m := ⟨_, rfl⟩
                rw [← hx, ← hy] at hwf
                have HWF := Lib.hid hwf
                have HX := Lib.hid hx
                have HYY := Lib.hid hy
                have HPUT : Hid (solAt (redA ms vs k) k (j + 1) = (solAt (redA ms vs k) k j).set d (x, y)) := Lib.hid (by
                  have h := HPUT0.out
                  have e1 : vec z k = n := HN.out.symm
                  have e2 : vec z d = m := HM.out.symm
                  rw [e1, e2, ← HX.out, ← HYY.out] at h
                  exact h)
                have HMK : Hid (true = mkOk n m) := Lib.hid (by unfold mkOk; rw [decide_eq_true hmk])
                have HC := Lib.hid hc
                have HCQ := Lib.hid hcq
                have HCD := Lib.hid hcd
                have i0j : (0 : Int) ≤ (j : Int) := by omega
                have i1j : (j : Int) < (l2 : Int) := by omega
                have i0k : (0 : Int) ≤ (k : Int) := by omega
                have i1k : (k : Int) < ((k + 1 : Nat) : Int) := by omega
                have i1k' : (k : Int) < (k : Int) + 1 := by omega
                have i0d : (0 : Int) ≤ (d : Int) := by omega
                have i1d : (d : Int) < (k : Int) + 1 := by omega
                have hdn : ¬ (k : Int) ≤ (d : Int) := by omega
                have ne1 := World.new_ne wr _ hc
                have ne2 := World.new_ne wr _ hcq
                have ne3 := World.new_ne wr _ hcd
                clear hc3 hn hm hx hy hwf hmk
                go_wp2_with (go_at_call 78; refine (specLead_any _ _ _ _ z (by omega) HSR.out).mono ?_; rw [← HD.out]; rintro e w' ⟨rfl, rfl⟩)
                go_region_held3 (fun w' => w'.cell? ⟨bo, off + j, none⟩ = some (.slice (some ⟨b3, o3, none⟩) (k + 1) cr) ∧ w'.cell? ⟨b3, o3 + k, none⟩ = some (.int .i64 n) ∧ w'.cell? ⟨b3, o3 + d, none⟩ = some (.int .i64 m)) (go_keep) (first
                  | (go_at_call 96; refine (specMkV_any n m x y true _ n0 n1 m0 m1 HX.out HYY.out HMK.out).mono ?_; rintro e w4 ⟨rfl, hb4⟩; have G4 := Lib.hid (below_up (w0 := wr) (by first | exact (Below.refl _ _).drew | exact ((Below.refl wr.heap.size wr).alloc (Nat.le_refl _) _).drew) hb4 (Nat.le_refl _)); have k1 := (G4.out.cell (p := ⟨bo, off + j, none⟩) hbl).trans HC.out; have k2 := (G4.out.cell (p := ⟨b3, o3 + k, none⟩) hb3).trans HCQ.out; have k3 := (G4.out.cell (p := ⟨b3, o3 + d, none⟩) hb3).trans HCD.out; have P4 := Lib.hid (((pair_new wr 0 0 30).drew).below hb4); have q0 := P4.out.c0; have q1 := P4.out.c1; have qf0 := P4.out.f0; have qf1 := P4.out.f1; clear hb4)
                  | (go_at_call 96; refine (specMkV_any n m x y true _ n0 n1 m0 m1 HX.out HYY.out HMK.out).mono ?_; rintro e w4 ⟨rfl, hb4⟩; have G4 := Lib.hid (below_up (w0 := wr) (by first | exact (Below.refl _ _).drew | exact ((Below.refl wr.heap.size wr).alloc (Nat.le_refl _) _).drew) hb4 (Nat.le_refl _)); have k1 := (G4.out.cell (p := ⟨bo, off + j, none⟩) hbl).trans HC.out; have k2 := (G4.out.cell (p := ⟨b3, o3 + k, none⟩) hb3).trans HCQ.out; have k3 := (G4.out.cell (p := ⟨b3, o3 + d, none⟩) hb3).trans HCD.out; clear hb4))
                · have G5 := Lib.hid (G4.out.alloc G4.out.size (.cells #[.int .i64 x, .int .i64 y] 30))
                  have HO5 := Lib.hid (HO3.out.below G5.out)
                  obtain ⟨hs0, hs1, hsf⟩ := HO5.out.spotAt d hdk
                  have hsf0 := hsf (d * 2)
                  have hsf1 := hsf (d * 2 + 1)
                  clear hsf
                  go_wp2
                  go_roundw
                  case rel =>
                    obtain ⟨hst, hmv⟩ := HO5.out.stored d (x, y) HWF.out
                    rw [← HPUT.out] at hst
                    exact ⟨j + 1, by omega, by go_num, hst, below_moved (HB3.out.trans (G5.out.mono hsz3)) hmv (Nat.le_refl _) (Nat.le_refl _), (HSF.out.below G5.out).moved hmv (.inr (Nat.le_refl _))⟩
                  case measure => simp [intOf]; omega
                · have G5 : Hid (Below wr.heap.size wr ((w4.setCell ⟨wr.heap.size, 0, none⟩ (.int .i64 x)).setCell ⟨wr.heap.size, 1, none⟩ (.int .i64 y))) := Lib.hid ((G4.out.setCell (Nat.le_refl _) _).setCell (Nat.le_refl _) _)
                  have HO5 := Lib.hid (HO3.out.below G5.out)
                  obtain ⟨hs0, hs1, hsf⟩ := HO5.out.spotAt d hdk
                  have hsf0 := hsf (d * 2)
                  have hsf1 := hsf (d * 2 + 1)
                  clear hsf
                  go_wp2
                  go_roundw
                  case rel =>
                    obtain ⟨hst, hmv⟩ := HO5.out.stored d (x, y) HWF.out
                    rw [← HPUT.out] at hst
                    exact ⟨j + 1, by omega, by go_num, hst, below_moved (HB3.out.trans (G5.out.mono hsz3)) hmv (Nat.le_refl _) (Nat.le_refl _), (HSF.out.below G5.out).moved hmv (.inr (Nat.le_refl _))⟩
                  case measure => simp [intOf]; omega
            · have HSKIP := Lib.hid (solAt_skip (rows := redA ms vs k) (q := k) (i := j) (by rw [← HZ.out, ← hd]; exact hdk))
              have hdn : (k : Int) ≤ (d : Int) := by omega
              clear hd
              go_wp2_with (go_at_call 78; refine (specLead_any _ _ _ _ z (by omega) HSR.out).mono ?_; rw [← HD.out]; rintro e w' ⟨rfl, rfl⟩)
              go_roundw
              case rel => exact ⟨j + 1, by omega, by go_num, by rw [HSKIP.out]; exact HO3.out, HB3.out, HSF.out⟩
              case measure => simp [intOf]; omega
          · have HF : Hid (xs = solAt (redA ms vs k) k j) := Lib.hid (by rw [HXS.out, HE.out, redA_len HOK.out, ← HLM.out, show l2 = j by omega])
            clear ho hb hsee
            go_wp2
            go_ret2
            exact ⟨_, _, _, rfl, by rw [HF.out]; exact HO3.out.wide (Nat.le_refl _) (by have := HO3.out.2.2.1; exact this) (Nat.le_refl _), HB3.out⟩
end Go.Proofs.Ytedkeobhcpbigaa
