/- ToldLinks and DelayOf, the program's. -/
import Derived.Test.YtedkeobhcpbigaaToP3
import Derived.Test.YtedkeobhcpbigaaBlk
namespace Go.Proofs.Ytedkeobhcpbigaa
open Go.RowKit
/-- Which places of the list are told. -/
def toldD (ds : List (Int × Int)) : Nat → List Int
  | 0 => []
  | k + 1 => if toldP (ds.getD k (0, 0)) = true then toldD ds k ++ [(k : Int)] else toldD ds k
theorem told_list {ms : List (List Int)} {cols : Int} : toldV ms cols = toldD (dlyL ms (List.replicate ms.length 0) cols) (dlyL ms (List.replicate ms.length 0) cols).length := by
  have hz := solv_zeros (ms := ms) (cols := cols)
  cases h : isMat ms cols with
  | false =>
    rw [h] at hz
    rw [dlyL_no hz]
    unfold toldV
    rw [h]
    rfl
  | true =>
    rw [h] at hz
    obtain ⟨q, rfl⟩ := sys_nat (solv_sys hz)
    rw [dlyL_len hz]
    unfold toldV
    rw [if_pos h, Int.toNat_natCast]
    have key : ∀ k, k ≤ q → toldK ms (q : Int) k = toldD (dlyL ms (List.replicate ms.length 0) (q : Int)) k := fun k => by
      induction k with
      | zero => exact fun _ => rfl
      | succ k ih =>
        intro hk
        rw [toldK, toldD, ih (by omega), dly_told hz (by omega)]
    exact key q (Nat.le_refl _)
theorem toldD_len (ds : List (Int × Int)) : ∀ k, (toldD ds k).length ≤ k
  | 0 => Nat.le_refl _
  | k + 1 => by
    have := toldD_len ds k
    rw [toldD]
    split
    · rw [List.length_append]; simp; omega
    · omega
theorem dlyL_le (ms : List (List Int)) (vs : List Int) (cols : Int) : (dlyL ms vs cols).length ≤ 6 := by
  cases h : solvB ms vs cols with
  | false => rw [dlyL_no h]; exact Nat.zero_le _
  | true =>
    obtain ⟨q, rfl⟩ := sys_nat (solv_sys h)
    rw [dlyL_len h]
    exact (aug_ok (solv_sys h)).fine.q6
set_option maxRecDepth 20000 in
set_option maxHeartbeats 1600000 in
theorem toldP_any (W : World) (a : Option Addr) (len cap : Nat) (ms : List (List Int)) (cols : Int) (hsm : SmallM ms) (hn : -9223372036854775808 ≤ cols) (hm : cols ≤ 9223372036854775807) (hs : SeesM W a len ms) :
    Calls Try.prog 12 #[.slice a len cap, .int .i64 cols] W (Made .i64 3 (toldV ms cols) W) := by
  have HS := Lib.hid hs
  have HM := Lib.hid hsm
  have hlen := hs.1
  subst hlen
  have HO0 := Lib.hid ((own_nil .i64 3 W).wide (lo2 := W.heap.size) (hi2 := (W.alloc (.cells #[] 3)).heap.size) (Nat.le_refl _) (by simp) (Nat.le_refl _))
  have HB0 := Lib.hid ((Below.refl W.heap.size W).alloc (Nat.le_refl _) (.cells #[] 3))
  obtain ⟨i0, hi, hz0, hz1, hz2⟩ := info_parts info_i64
  have hl20 : ms.length ≤ 1048576 := by unfold SmallM at hsm; omega
  have HE := Lib.hid (told_list (ms := ms) (cols := cols))
  have hd6 := dlyL_le ms (List.replicate ms.length 0) cols
  obtain ⟨ds, hds⟩ : ∃ ds, ds = dlyL ms (List.replicate ms.length 0) cols := ⟨_, rfl⟩
  have HDS := Lib.hid hds
  rw [← hds] at HE hd6
  clear hs hsm hds
  go_enter Try.func12, Try.ntmps12
  go_wp2_with (first
    | (at_make; refine wp_make_room _ rfl _ _ 25 rfl 3 i0 .i64 8 Try.underlying25 hi hz0 hz1 hz2 _ _ _ _ ms.length ms.length rfl rfl rfl rfl (Nat.le_refl _) (by omega) (by unfold maxLen; omega) ?_; intro w1 ho1 hb1; have hv1 := ho1.sees; rw [World.size_alloc] at hv1; have HV1 := Lib.hid hv1; clear hv1; have hsz1 := hb1.size; have HO1 := Lib.hid ((ownB_new W).below hb1); have HB1 := Lib.hid (below_up HB0.out hb1 (Nat.le_refl _)); clear ho1 hb1)
    | (go_at_call 41; refine (dlyP_any _ _ _ _ ms _ _ _ (List.replicate ms.length 0) cols HM.out (HS.out.below HB1.out) (by omega) (Nat.le_refl _) (by unfold maxLen; omega) HV1.out hn hm).mono ?_; rw [← HDS.out]; rintro e w2 ⟨a2, l2, c2, rfl, ho2, hb2⟩; have hl2 : ds.length = l2 := ho2.1; subst hl2; have HO2 := Lib.hid (HO1.out.below hb2); have HD2 := Lib.hid ho2.sees; have hg2 : Hid (∀ x, a2 = some x → W.heap.size ≠ x.block) := Lib.hid (fun x hx => by rcases ho2.spot with ⟨h0, _⟩ | ⟨g9, h0, hg9, _⟩; (· rw [h0] at hx; cases hx); (· rw [h0] at hx; cases hx; rw [World.size_alloc] at hsz1; simp only; omega)); have HB2 := Lib.hid (below_up HB1.out hb2 (Nat.le_refl _)); clear ho2 hb2))
  go_loopw [16, 5, 6, 7] (fun s v _ _ wr => ∃ (k l' g c' : Nat), k ≤ ds.length ∧ l' ≤ k ∧ s = .int .i64 k ∧ v = .slice (some ⟨g, 0, none⟩) l' c' ∧ OwnB wr g l' c' (toldD ds k) ∧ Below W.heap.size W wr ∧ SeesR wr a2 ds.length ds ∧ Hid (∀ x, a2 = some x → g ≠ x.block) ∧ W.heap.size ≤ g) (fun s _ _ _ _ => ds.length - (intOf s).toNat)
  case atStart => exact ⟨0, 0, _, _, Nat.zero_le _, Nat.zero_le _, rfl, rfl, HO2.out, HB2.out, HD2.out, hg2, Nat.le_refl _⟩
  case round =>
    obtain ⟨k, l', g, c', hk, hl', rfl, rfl, ho, hb, hd, hg, hgW⟩ := hrel
    have HO := Lib.hid ho
    have HB := Lib.hid hb
    have HD := Lib.hid hd
    by_cases hlt : k < ds.length
    · rcases hd.2.2 with h00 | ⟨b1, o1, rfl, hb10, hc1⟩
      · omega
      obtain ⟨x, y, hxy⟩ : ∃ x y, ds.getD k (0, 0) = (x, y) := ⟨_, _, rfl⟩
      have hx0 := (hc1 k hlt).1
      have hx1 := (hc1 k hlt).2
      rw [hxy] at hx0 hx1
      obtain ⟨t, ht⟩ : ∃ t, toldP (x, y) = t := ⟨_, rfl⟩
      have HT := Lib.hid ht
      have HN : Hid (toldD ds (k + 1) = if t = true then toldD ds k ++ [(k : Int)] else toldD ds k) := Lib.hid (by rw [toldD, hxy, ht])
      have HKW : Hid ((Lit.int .i64 (k : Int)).wf = true) := Lib.hid (WalkArith.wf_i64 (by omega))
      have k00 : (0 : Int) ≤ (k : Int) := by omega
      have k01 : (k : Int) < (ds.length : Int) := by omega
      have HBV := Lib.hid ((Below.refl wr.heap.size wr).alloc (Nat.le_refl _) (.cells #[.int .i64 x, .int .i64 y] 30))
      clear ho hb hd hxy ht hc1
      cases t
      · go_wp2_with (first
          | (go_at_call 42; refine (isTold_any _ x y).mono ?_; rw [HT.out]; rintro e w3 ⟨rfl, hb3⟩; have hb3 := below_up HBV.out hb3 (Nat.le_refl _); have HO3 := Lib.hid (HO.out.below hb3); have HD3 := Lib.hid (HD.out.below hb3); have hsz3 := hb3.size; have HB3 := Lib.hid (below_up HB.out hb3 (Nat.le_refl _)); clear hb3))
        go_roundw
        case rel => exact ⟨k + 1, l', _, _, by omega, by omega, by go_num, rfl, by rw [HN.out]; exact HO3.out, HB3.out, HD3.out, hg, hgW⟩
        case measure => simp [intOf]; omega
      · go_wp2_with (first
          | (go_at_call 42; refine (isTold_any _ x y).mono ?_; rw [HT.out]; rintro e w3 ⟨rfl, hb3⟩; have hb3 := below_up HBV.out hb3 (Nat.le_refl _); have HO3 := Lib.hid (HO.out.below hb3); have HD3 := Lib.hid (HD.out.below hb3); have hsz3 := hb3.size; have HB3 := Lib.hid (below_up HB.out hb3 (Nat.le_refl _)); clear hb3)
          | (at_builtin; refine wp_append_blk rfl _ _ 25 rfl i0 Try.underlying25 hi hz0 hz1 hz2 _ _ _ _ rfl (HO3.out.below ((Below.refl _ _).alloc (Nat.le_refl _) _)) _ _ _ rfl (sees_one (x := (k : Int)) HKW.out _ _) (by omega) ?_; intro g4 cap4 w4 ho4 hg4 hm4; have HO4 := Lib.hid ho4; have HM4 := Lib.hid hm4; have HG4 : Hid (∀ x, (some ⟨b1, o1, none⟩ : Option Addr) = some x → g4 ≠ x.block) := Lib.hid (fun x hx => by rcases hg4 with rfl | rfl; (· exact hg.out x hx); (· cases hx; have := hsz3; simp only [World.size_alloc]; omega)); have hgW4 : W.heap.size ≤ g4 := (by rcases hg4 with rfl | rfl; exact hgW; have := HB3.out.size; simp only [World.size_alloc]; omega); clear ho4 hm4 hg4))
        have HBA := Lib.hid (below_moved (HB3.out.alloc HB3.out.size (.cells #[.int .i64 (k : Int)] 3)) HM4.out (Nat.le_refl _) hgW)
        go_roundw
        case rel => exact ⟨k + 1, l' + 1, g4, _, by omega, by omega, by go_num, rfl, by rw [HN.out]; exact HO4.out, HBA.out, (HD3.out.alloc _).moved HM4.out (fun x hx => by have := hg.out x hx; omega), HG4, hgW4⟩
        case measure => simp [intOf]; omega
    · obtain rfl : k = ds.length := by omega
      clear hd
      go_wp2
      go_ret
      exact ⟨_, _, _, rfl, by rw [HE.out]; exact ho.wide hgW ho.lt (Nat.le_refl _), hb⟩
set_option maxRecDepth 20000 in
set_option maxHeartbeats 1600000 in
theorem delP_any (W : World) (a : Option Addr) (len cap : Nat) (ms : List (List Int)) (b : Option Addr) (lb cb : Nat) (vs : List Int) (k n : Int) (hk0 : -9223372036854775808 ≤ k) (hk1 : k ≤ 9223372036854775807) (hn : -9223372036854775808 ≤ n) (hm : n ≤ 9223372036854775807) (hsm : SmallM ms) (hs : SeesM W a len ms) (hl : lb ≤ 1073741824) (hcb : lb ≤ cb) (hcm : cb ≤ maxLen) (hs2 : Sees .i64 W b lb vs) (r : Option (Int × Int)) (hr : r = delV ms vs k n) :
    Calls Try.prog 13 #[.slice a len cap, .slice b lb cb, .int .i64 k, .int .i64 n] W (RatRes (dN r) (dD r) r.isSome W) := by
  obtain ⟨V, hV⟩ : ∃ V, V = W.alloc (.cells #[.int .i64 0, .int .i64 0] 30) := ⟨_, rfl⟩
  have hBV : Below W.heap.size W V := by rw [hV]; exact (Below.refl _ _).alloc (Nat.le_refl _) _
  have HRV := Lib.hid (show PairAt V W.heap.size 0 0 by rw [hV]; exact pair_new _ _ _ _)
  have HS := Lib.hid (hs.below hBV)
  have HS2 := Lib.hid (hs2.below hBV)
  have HM := Lib.hid hsm
  have HBV := Lib.hid hBV
  have HV := Lib.hid hV
  have HCM := Lib.hid hcm
  obtain ⟨hno, hyes⟩ := del_dly hr
  have hd6 := dlyL_le ms vs n
  obtain ⟨ds, hds⟩ : ∃ ds, ds = dlyL ms vs n := ⟨_, rfl⟩
  have HDS := Lib.hid hds
  rw [← hds] at hno hyes hd6
  have wn : IntKind.i64.wrap ((ds.length : Int) - 1) = (ds.length : Int) - 1 := IntWalk.i64_in _ (by omega)
  clear hs hs2 hsm hBV hV hr hcm hds
  cases h1 : inR k 0 ((ds.length : Int) - 1)
  · have HN := Lib.hid (hno h1)
    have H1 := Lib.hid h1
    clear h1 hno hyes
    go_enter Try.func13, Try.ntmps13
    go_wp2_with fail
    rw [← HV.out]
    go_at_call 41
    refine (dlyP_any V _ _ _ ms _ _ _ vs n HM.out HS.out hl hcb HCM.out HS2.out hn hm).mono ?_
    rw [← HDS.out]
    rintro e w2 ⟨a2, l2, c2, rfl, ho2, hb2⟩
    have hl2 : ds.length = l2 := ho2.1
    subst hl2
    have HR2 := Lib.hid (HRV.out.below hb2)
    have HB2 := Lib.hid (below_up HBV.out hb2 (Nat.le_refl _))
    have r0 := HR2.out.c0
    have r1 := HR2.out.c1
    have rf0 := HR2.out.f0
    have rf1 := HR2.out.f1
    clear ho2 hb2
    go_wp2_with (first | (go_at_call 43; refine (inRange_any _ _ _ _).mono ?_; rw [H1.out]; rintro e w' ⟨rfl, rfl⟩))
    refine bodyPost_ret (v := .tuple #[.agg #[.int .i64 0, .int .i64 0], .bool false]) (by simp [results, Try.results13, go_sem, r0, r1]) rfl ?_
    rw [HN.out]
    exact ⟨rfl, Below.setCell (Below.setCell HB2.out (Nat.le_refl _) _) (Nat.le_refl _) _⟩
  · obtain ⟨l0, l1⟩ := inR_true.1 h1
    obtain ⟨j, rfl⟩ : ∃ j : Nat, k = (j : Int) := ⟨k.toNat, by omega⟩
    obtain ⟨hj, hxy, hto⟩ := hyes j rfl h1
    obtain ⟨x, hx⟩ : ∃ x, x = dN r := ⟨_, rfl⟩
    obtain ⟨y, hy⟩ : ∃ y, y = dD r := ⟨_, rfl⟩
    obtain ⟨o, ho⟩ : ∃ o, o = r.isSome := ⟨_, rfl⟩
    rw [← hx, ← hy] at hxy
    rw [← hx, ← hy, ← ho]
    rw [hxy, ← ho] at hto
    have HT := Lib.hid hto
    have HXY := Lib.hid hxy
    have H1 := Lib.hid h1
    clear h1 hno hyes hx hy ho hxy hto
    have j0 : (0 : Int) ≤ (j : Int) := by omega
    have j1 : (j : Int) < (ds.length : Int) := by omega
    go_enter Try.func13, Try.ntmps13
    go_wp2_with fail
    rw [← HV.out]
    go_at_call 41
    refine (dlyP_any V _ _ _ ms _ _ _ vs n HM.out HS.out hl hcb HCM.out HS2.out hn hm).mono ?_
    rw [← HDS.out]
    rintro e w2 ⟨a2, l2, c2, rfl, ho2, hb2⟩
    have hl2 : ds.length = l2 := ho2.1
    subst hl2
    have HR2 := Lib.hid (HRV.out.below hb2)
    have HB2 := Lib.hid (below_up HBV.out hb2 (Nat.le_refl _))
    rcases ho2.sees.2.2 with h00 | ⟨b1, o1, rfl, hb1, hcl⟩
    · omega
    obtain ⟨hc0, hc1⟩ := hcl j hj
    rw [HXY.out] at hc0 hc1
    replace hc0 : w2.cell? ⟨b1, o1 + j * 2, none⟩ = some (.int .i64 x) := hc0
    replace hc1 : w2.cell? ⟨b1, o1 + j * 2 + 1, none⟩ = some (.int .i64 y) := hc1
    have HC0 := Lib.hid hc0
    have HC1 := Lib.hid hc1
    have hw2 : W.heap.size < w2.heap.size := HR2.out.lt
    have hne1 : W.heap.size ≠ b1 := by
      have h1 := (ho2.2.2.2.2 _ rfl).1
      have h2 := HRV.out.lt
      simp only at h1
      omega
    have hne2 : b1 ≠ W.heap.size := Ne.symm hne1
    clear ho2 hb2 hcl
    go_wp2_with (first | (go_at_call 43; refine (inRange_any _ _ _ _).mono ?_; rw [H1.out]; rintro e w' ⟨rfl, rfl⟩))
    go_region_held3 (fun w' => w'.cell? ⟨b1, o1 + j * 2, none⟩ = some (.int .i64 x) ∧ w'.cell? ⟨b1, o1 + j * 2 + 1, none⟩ = some (.int .i64 y)) (go_keep) (first
      | (go_at_call 42; refine (isTold_any _ x y).mono ?_; rw [HT.out]; rintro e w3 ⟨rfl, hb3⟩; have hb3 := below_up (w0 := w2) (Below.refl _ _).drew hb3 (Nat.le_refl _); have hc0 := (hb3.cell (p := ⟨b1, o1 + j * 2, none⟩) hb1).trans HC0.out; have hc1 := (hb3.cell (p := ⟨b1, o1 + j * 2 + 1, none⟩) hb1).trans HC1.out; have HR3 := Lib.hid (HR2.out.below hb3); have HB3 := Lib.hid (below_up HB2.out hb3 (Nat.le_refl _)); have r0 := HR3.out.c0; have r1 := HR3.out.c1; have rf0 := HR3.out.f0; have rf1 := HR3.out.f1; clear hb3))
    all_goals go_wp2
    all_goals
      refine bodyPost_ret (v := .tuple #[.agg #[.int .i64 x, .int .i64 y], .bool o]) (by simp [results, Try.results13, go_sem, r0, r1]) rfl ?_
      exact ⟨rfl, Below.setCell (Below.setCell HB3.out (Nat.le_refl _) _) (Nat.le_refl _) _⟩
end Go.Proofs.Ytedkeobhcpbigaa
