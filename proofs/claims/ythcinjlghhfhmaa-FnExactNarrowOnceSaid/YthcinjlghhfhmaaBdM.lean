/- AreBounds and StartBounds, the model's. -/
import Derived.Test.YthcinjlghhfhmaaBdF
namespace Go.Proofs.Ythcinjlghhfhmaa
open Go.RowKit
theorem SeesV.at {w : World} {a : Option Addr} {len : Nat} {xs : List (Int × Int)} (h : SeesV w a len xs) {k : Nat} (hk : k < len) :
    ∃ b off, a = some ⟨b, off, none⟩ ∧ b < w.heap.size ∧ w.cell? ⟨b, off + k * 2, none⟩ = some (.int .i64 (iv xs k).1) ∧ w.cell? ⟨b, off + k * 2 + 1, none⟩ = some (.int .i64 (iv xs k).2) := h.spot hk
set_option maxRecDepth 20000 in
set_option maxHeartbeats 3200000 in
theorem specBnd_any (W : World) (a : Option Addr) (len cap : Nat) (ms : List (List Int)) (b : Option Addr) (lb cb : Nat) (xs : List (Int × Int)) (n : Int) (hsm : SmallM ms) (hs : SeesM W a len ms) (hlb : lb ≤ 1073741824) (hsv : SeesV W b lb xs)
    (hn : -9223372036854775808 ≤ n) (hm : n ≤ 9223372036854775807) :
    Calls Try.prog 18 #[.slice a len cap, .slice b lb cb, .int .i64 n] W fun e w' => e = .returned (.bool (bndV ms xs n)) ∧ Below W.heap.size W w' := by
  have HS := Lib.hid hs
  have HL := Lib.hid hs.1
  have HSV := Lib.hid hsv
  have HLV := Lib.hid hsv.1
  have hl : len ≤ 1048576 := by unfold SmallM at hsm; have := hs.1; omega
  have HSM := Lib.hid hsm
  obtain ⟨v, hv⟩ : ∃ v, v = bndV ms xs n := ⟨_, rfl⟩
  rw [← hv]
  have HV := Lib.hid hv
  clear hs hsm hv hsv
  go_enter Try.func18, Try.ntmps18
  go_wp2
  go_loopw [7, 8] (fun i _ wr => ∃ k : Nat, k ≤ len ∧ i = .int .i64 k ∧ Hid (∀ r, r < k → ∀ c, c < (row ms r).length → inR ((row ms r).getD c 0) 0 1 = true) ∧ Below W.heap.size W wr) (fun i _ _ => len - (intOf i).toNat)
  case atStart => exact ⟨0, Nat.zero_le _, rfl, Lib.hid (fun r hr => by omega), Below.refl _ _⟩
  case round =>
    obtain ⟨i, hi, rfl, HR, hb⟩ := hrel
    have HB := Lib.hid hb
    by_cases hlt : i < len
    · have him : i < ms.length := by rw [HL.out]; exact hlt
      obtain ⟨b1, off, ar, cr, rfl, hbl, hc, _, _, hsr⟩ := HS.out.2 i hlt
      obtain ⟨zs, hzs⟩ : ∃ zs, zs = row ms i := ⟨_, rfl⟩
      rw [← hzs] at hc hsr
      have HZ := Lib.hid hzs
      have hzl : zs.length ≤ 1048576 := by have := HSM.out.row him; rw [hzs]; omega
      have HSR := Lib.hid hsr
      have HCW := Lib.hid hc
      clear hc hsr hzs hb
      go_wp2
      go_loopw [8] (fun q wr2 => ∃ k : Nat, k ≤ zs.length ∧ q = .int .i64 k ∧ Hid (∀ c, c < k → inR (zs.getD c 0) 0 1 = true) ∧ Below W.heap.size W wr2) (fun q _ => zs.length - (intOf q).toNat)
      case atStart => exact ⟨0, Nat.zero_le _, rfl, Lib.hid (fun c hc => by omega), HB.out⟩
      case round =>
        obtain ⟨k, hk, rfl, HC, hb⟩ := hrel
        have HB2 := Lib.hid hb
        have hcw := (hb.cell (p := ⟨b1, off + i, none⟩) hbl).trans HCW.out
        by_cases hkl : k < zs.length
        · rcases HSR.out.2.2 with h0 | ⟨b2, o2, rfl, hb2, hc2⟩
          · omega
          · have hcc := (hb.cell (p := ⟨b2, o2 + k, none⟩) hb2).trans (hc2 k hkl)
            obtain ⟨x, hx⟩ : ∃ x, x = zs.getD k 0 := ⟨_, rfl⟩
            rw [← hx] at hcc
            have HX := Lib.hid hx
            clear hc2 hb hx
            cases hin : inR x 0 1
            · have HE := Lib.hid (HV.out.trans (bnd_bits (bitsOk_no him (k := k) (by rw [← HZ.out]; exact hkl) (by rw [← HZ.out, ← HX.out]; exact hin))))
              have HIN := Lib.hid hin
              clear hin
              go_wp2_with (go_at_call 42; refine (l1In_any _ _ _ _).mono ?_; rw [HIN.out]; rintro e w' ⟨rfl, rfl⟩)
              go_ret
              exact ⟨ret_bool HE.out.symm, HB2.out⟩
            · have HIN := Lib.hid hin
              clear hin
              go_wp2_with (go_at_call 42; refine (l1In_any _ _ _ _).mono ?_; rw [HIN.out]; rintro e w' ⟨rfl, rfl⟩)
              go_roundw
              case rel => exact ⟨k + 1, by omega, by go_num, Lib.hid (fun c hc => by rcases Nat.lt_or_eq_of_le (Nat.lt_succ_iff.1 hc) with h | h; exact HC.out c h; subst h; rw [← HX.out]; exact HIN.out), HB2.out⟩
              case measure => simp [intOf]; omega
        · clear hb
          obtain rfl : k = zs.length := by omega
          go_wp2
          go_roundw
          case rel => exact ⟨i + 1, by omega, by go_num, Lib.hid (fun r hr => by rcases Nat.lt_or_eq_of_le (Nat.lt_succ_iff.1 hr) with h | h; exact HR.out r h; subst h; rw [← HZ.out]; exact HC.out), HB2.out⟩
          case measure => simp [intOf]; omega
    · clear hb
      obtain rfl : i = len := by omega
      have HBI : Hid (bitsOk ms = true) := Lib.hid (bitsOk_all (fun r hr => HR.out r (by rw [← HL.out]; exact hr)))
      clear HR
      go_wp2
      go_loopw [9] (fun q wr2 => ∃ k : Nat, k ≤ lb ∧ q = .int .i64 k ∧ Hid (∀ j, j < k → ivOk (iv xs j) = true) ∧ Below W.heap.size W wr2) (fun q _ => lb - (intOf q).toNat)
      case atStart => exact ⟨0, Nat.zero_le _, rfl, Lib.hid (fun j hj => by omega), HB.out⟩
      case round =>
        clear HB
        obtain ⟨k, hk, rfl, HC, hb⟩ := hrel
        have HB := Lib.hid hb
        by_cases hkl : k < lb
        · have hkx : k < xs.length := by rw [HLV.out]; exact hkl
          obtain ⟨b2, o2, rfl, hb2, hc0, hc1⟩ := HSV.out.at hkl
          have hw0 := (hb.cell (p := ⟨b2, o2 + k * 2, none⟩) hb2).trans hc0
          have hw1 := (hb.cell (p := ⟨b2, o2 + k * 2 + 1, none⟩) hb2).trans hc1
          obtain ⟨x, y, hxy⟩ : ∃ x y, iv xs k = (x, y) := ⟨_, _, rfl⟩
          rw [hxy] at hw0 hw1
          have HXY := Lib.hid hxy
          have HW0 := Lib.hid hw0
          clear hc0 hc1 hb hxy
          cases h1 : isV x y
          · have H1 := Lib.hid h1
            have HE := Lib.hid (HV.out.trans (bnd_ivs (n := n) (ms := ms) (ivsOk_no hkx (by rw [HXY.out]; unfold ivOk; rw [h1]; rfl))))
            clear h1
            go_wp2_with (go_at_call 43; refine (specIv_any _ _ _).mono ?_; rw [H1.out]; rintro e w' ⟨rfl, hbb⟩; have HB := Lib.hid (below_up HB.out hbb (Nat.le_refl _)); clear hbb)
            go_ret
            exact ⟨ret_bool HE.out.symm, HB.out⟩
          · have H1 := Lib.hid h1
            by_cases h2 : x < 0
            · have HE := Lib.hid (HV.out.trans (bnd_ivs (n := n) (ms := ms) (ivsOk_no hkx (by rw [HXY.out]; unfold ivOk; rw [h1]; simp; omega))))
              clear h1
              go_wp2_with (go_at_call 43; refine (specIv_any _ _ _).mono ?_; rw [H1.out]; rintro e w' ⟨rfl, hbb⟩; have hw0 := (hbb.cell (p := ⟨b2, o2 + k * 2, none⟩) (Nat.lt_of_lt_of_le hb2 HB.out.size)).trans HW0.out; have HB := Lib.hid (below_up HB.out hbb (Nat.le_refl _)); clear hbb)
              go_ret
              exact ⟨ret_bool HE.out.symm, HB.out⟩
            · have HO : Hid (ivOk (iv xs k) = true) := Lib.hid (by rw [HXY.out]; unfold ivOk; rw [h1]; simp; omega)
              clear h1
              go_wp2_with (go_at_call 43; refine (specIv_any _ _ _).mono ?_; rw [H1.out]; rintro e w' ⟨rfl, hbb⟩; have hw0 := (hbb.cell (p := ⟨b2, o2 + k * 2, none⟩) (Nat.lt_of_lt_of_le hb2 HB.out.size)).trans HW0.out; have HB := Lib.hid (below_up HB.out hbb (Nat.le_refl _)); clear hbb)
              go_roundw
              case rel => exact ⟨k + 1, by omega, by go_num, Lib.hid (fun j hj => by rcases Nat.lt_or_eq_of_le (Nat.lt_succ_iff.1 hj) with h | h; exact HC.out j h; subst h; exact HO.out), HB.out⟩
              case measure => simp [intOf]; omega
        · clear hb
          obtain rfl : k = lb := by omega
          have HVI : Hid (ivsOk xs = true) := Lib.hid (ivsOk_all (fun j hj => HC.out j (by rw [← HLV.out]; exact hj)))
          have HE := Lib.hid (HV.out.trans (bnd_yes HBI.out HVI.out))
          cases h3 : isMat ms n
          · have H3 := Lib.hid h3
            have HE : Hid (v = false) := Lib.hid (by rw [HE.out, h3, Bool.false_and])
            clear h3
            go_wp2_with (go_at_call 44; refine (specIsM_any _ _ _ _ ms n HSM.out hn hm (HS.out.below HB.out)).mono ?_; rw [H3.out]; rintro e w' ⟨rfl, hbb⟩; have HB := Lib.hid (below_up HB.out hbb (Nat.le_refl _)); clear hbb)
            go_ret
            exact ⟨ret_bool HE.out.symm, HB.out⟩
          · have H3 := Lib.hid h3
            by_cases h4 : k = i
            · have HE : Hid (v = true) := Lib.hid (by rw [HE.out, h3, decide_eq_true (by rw [HLV.out, HL.out]; exact h4), Bool.true_and])
              subst h4
              clear h3
              go_wp2_with (go_at_call 44; refine (specIsM_any _ _ _ _ ms n HSM.out hn hm (HS.out.below HB.out)).mono ?_; rw [H3.out]; rintro e w' ⟨rfl, hbb⟩; have HB := Lib.hid (below_up HB.out hbb (Nat.le_refl _)); clear hbb)
              go_ret
              exact ⟨ret_bool HE.out.symm, HB.out⟩
            · have h5 : ¬ (k : Int) = (i : Int) := by omega
              have HE : Hid (v = ((k : Int) == (i : Int))) := Lib.hid (by rw [HE.out, h3, decide_eq_false (by rw [HLV.out, HL.out]; exact h4), Bool.true_and]; symm; simp [h5])
              clear h3
              go_wp2_with (go_at_call 44; refine (specIsM_any _ _ _ _ ms n HSM.out hn hm (HS.out.below HB.out)).mono ?_; rw [H3.out]; rintro e w' ⟨rfl, hbb⟩; have HB := Lib.hid (below_up HB.out hbb (Nat.le_refl _)); clear hbb)
              go_ret
              exact ⟨ret_bool HE.out.symm, HB.out⟩
def MadeVB (xs : List (Int × Int)) (t : Bool) (w : World) (E : Ending) (w' : World) : Prop :=
  ∃ a len cap, E = .returned (.tuple #[.slice a len cap, .bool t]) ∧ OwnV w' w.heap.size w'.heap.size a len cap xs ∧ Below w.heap.size w w'
theorem begV_next (k : Nat) : List.replicate k ((0, 100000) : Int × Int) ++ [(0, 100000)] = List.replicate (k + 1) (0, 100000) := by
  rw [List.replicate_succ']
set_option maxRecDepth 20000 in
set_option maxHeartbeats 3200000 in
theorem specBeg_any (W : World) (n : Int) : Calls Try.prog 24 #[.int .i64 n] W (MadeV (begV n) W) := by
  obtain ⟨i0, hi, hz0, hz1, hz2⟩ := info_parts info_iv
  by_cases h0 : 0 < n
  · by_cases h6 : n ≤ 6
    · obtain ⟨m, hm⟩ : ∃ m : Nat, n = (m : Int) := ⟨n.toNat, by omega⟩
      have HE : Hid (begV n = List.replicate m (0, 100000)) := Lib.hid (by unfold begV; rw [if_pos (inR_true.2 (by omega)), hm]; rfl)
      subst hm
      go_enter Try.func24, Try.ntmps24
      go_wp2_with fail
      go_loopw [3, 4] (fun v i wr => ∃ (k : Nat) (a' : Option Addr) (c' : Nat), k ≤ m ∧ i = .int .i64 k ∧ v = .slice a' k c' ∧ OwnV wr W.heap.size wr.heap.size a' k c' (List.replicate k (0, 100000)) ∧ Below W.heap.size W wr) (fun _ i _ => m - (intOf i).toNat)
      case atStart => exact ⟨0, _, _, Nat.zero_le _, rfl, rfl, ownV_empty W _ (Nat.le_refl _), (Below.refl _ _).alloc (Nat.le_refl _) _⟩
      case round =>
        obtain ⟨k, a', c', hk, rfl, rfl, ho, hb⟩ := hrel
        have HO := Lib.hid ho
        have HB := Lib.hid hb
        have hsz := hb.size
        clear ho hb
        by_cases hlt : k < m
        · go_wp2_with (at_builtin; refine wp_append_seesV rfl _ _ 25 rfl i0 Try.underlying25 hi hz0 hz1 hz2 _ _ _ _ rfl _ _ (HO.out.alloc _) _ _ _ _ rfl (seesV_one (WalkArith.wf_i64 (by omega)) (WalkArith.wf_i64 (by omega)) _ _) (by unfold maxLen; omega) (by omega) (by simp; omega) ?_; intro a3 l3 c3 w3 hl3 ho3 hm3; subst hl3; rw [begV_next] at ho3; have HO3 := Lib.hid ho3; have HB3 := Lib.hid (below_moved (HB.out.alloc (by omega) _) hm3 (Nat.le_refl _) (Nat.le_refl _)); clear ho3 hm3)
          go_roundw
          case rel => exact ⟨k + 1, _, _, by omega, by go_num, rfl, HO3.out, HB3.out⟩
          case measure => simp [intOf]; omega
        · obtain rfl : k = m := by omega
          go_wp2
          go_ret
          exact ⟨_, _, _, rfl, by rw [HE.out]; exact HO.out, HB.out⟩
    · have HE : Hid (begV n = []) := Lib.hid (begV_no (by rw [inR_false]; omega))
      go_enter Try.func24, Try.ntmps24
      go_wp2_with fail
      go_loopw [3, 4] (fun v i wr => i = .int .i64 0 ∧ v = .slice (some ⟨W.heap.size, 0, none⟩) 0 0 ∧ wr = W.alloc (.cells #[] 33)) (fun _ _ _ => 0)
      case atStart => exact ⟨rfl, rfl, rfl⟩
      case round =>
        obtain ⟨rfl, rfl, rfl⟩ := hrel
        go_wp2
        go_ret
        exact ⟨_, _, _, rfl, by rw [HE.out]; exact ownV_empty W _ (Nat.le_refl _), (Below.refl _ _).alloc (Nat.le_refl _) _⟩
  · have HE : Hid (begV n = []) := Lib.hid (begV_no (by rw [inR_false]; omega))
    go_enter Try.func24, Try.ntmps24
    go_wp2_with fail
    go_loopw [3, 4] (fun v i wr => i = .int .i64 0 ∧ v = .slice (some ⟨W.heap.size, 0, none⟩) 0 0 ∧ wr = W.alloc (.cells #[] 33)) (fun _ _ _ => 0)
    case atStart => exact ⟨rfl, rfl, rfl⟩
    case round =>
      obtain ⟨rfl, rfl, rfl⟩ := hrel
      go_wp2
      go_ret
      exact ⟨_, _, _, rfl, by rw [HE.out]; exact ownV_empty W _ (Nat.le_refl _), (Below.refl _ _).alloc (Nat.le_refl _) _⟩
end Go.Proofs.Ythcinjlghhfhmaa
