/- AreReplies, the model's. -/
import Derived.Test.YtgninjdnfidpcaaAlF
import Derived.Deep.RegionHeld3
import Derived.Deep.DeepCutAuto
namespace Go.Proofs.Ytgninjdnfidpcaa
open Go.RowKit
theorem l9Stamp_any (n : Int) (w : World) : Calls Try.prog 77 #[.int .i64 n] w fun e w' => e = .returned (.bool (inR n 0 100000)) ∧ w = w' := by
  go_enter Try.func77, Try.ntmps77
  go_wp2_with (go_at_call 61; refine (l1In_any _ _ _ _).mono ?_; rintro e w' ⟨rfl, rfl⟩)
  go_ret
  exact ⟨rfl, rfl⟩
theorem SeesY.at {w : World} {a : Option Addr} {len : Nat} {xs : List (Int × Int × Int)} (h : SeesY w a len xs) {k : Nat} (hk : k < len) :
    ∃ b off, a = some ⟨b, off, none⟩ ∧ b < w.heap.size ∧ ∀ j, j < len → w.cell? ⟨b, off + j * 3, none⟩ = some (.int .i64 (rep xs j).1) ∧ w.cell? ⟨b, off + j * 3 + 1, none⟩ = some (.int .i64 (rep xs j).2.1) ∧ w.cell? ⟨b, off + j * 3 + 2, none⟩ = some (.int .i64 (rep xs j).2.2) := by
  rcases h.2.2 with h0 | h1
  · omega
  · exact h1
set_option maxRecDepth 20000 in
set_option maxHeartbeats 3200000 in
theorem specAreR_any (W : World) (a : Option Addr) (len cap : Nat) (xs : List (Int × Int × Int)) (hl : len ≤ 1073741824) (hs : SeesY W a len xs) :
    Calls Try.prog 37 #[.slice a len cap] W fun e w' => e = .returned (.bool (areR xs)) ∧ Below W.heap.size W w' := by
  have HS := Lib.hid hs
  have HL := Lib.hid hs.1
  obtain ⟨v, hv⟩ : ∃ v, v = areR xs := ⟨_, rfl⟩
  rw [← hv]
  have HV := Lib.hid hv
  clear hs hv
  go_enter Try.func37, Try.ntmps37
  go_wp2
  go_loopw [3, 4] (fun s _ wr => ∃ i : Nat, i ≤ len ∧ s = .int .i64 i ∧ Hid (∀ j, j < i → repOk (rep xs j) = true ∧ ∀ k, k < j → ¬ (rep xs k).2.1 = (rep xs j).2.1) ∧ Below W.heap.size W wr) (fun s _ _ => len - (intOf s).toNat)
  case atStart => exact ⟨0, Nat.zero_le _, rfl, Lib.hid (fun j hj => absurd hj (Nat.not_lt_zero _)), Below.refl _ _⟩
  case round =>
    obtain ⟨i, hi, rfl, HR, hb⟩ := hrel
    have HB := Lib.hid hb
    by_cases hlt : i < len
    · have hix : i < xs.length := by rw [HL.out]; exact hlt
      obtain ⟨b, o, rfl, hb0, hc⟩ := HS.out.at hlt
      have HC := Lib.hid hc
      obtain ⟨c0, c1, c2⟩ := hc i hlt
      have hw0 := (hb.cell (p := ⟨b, o + i * 3, none⟩) hb0).trans c0
      have hw1 := (hb.cell (p := ⟨b, o + i * 3 + 1, none⟩) hb0).trans c1
      have hw2 := (hb.cell (p := ⟨b, o + i * 3 + 2, none⟩) hb0).trans c2
      obtain ⟨x, y, z, hp⟩ : ∃ x y z, rep xs i = (x, y, z) := ⟨_, _, _, rfl⟩
      rw [hp] at hw0 hw1 hw2
      have HP := Lib.hid hp
      clear c0 c1 c2 hb hp hc
      cases h0 : inR x 0 20
      · have H0 := Lib.hid h0
        have HE := Lib.hid (HV.out.trans (areR_bad hix (by rw [HP.out]; unfold repOk; rw [h0]; rfl)))
        clear h0
        go_wp2_with (first | (go_at_call 61; refine (l1In_any _ _ _ _).mono ?_; rw [H0.out]; rintro e w' ⟨rfl, rfl⟩))
        go_ret
        exact ⟨ret_bool HE.out.symm, HB.out⟩
      · have H0 := Lib.hid h0
        cases h1 : inR y 0 100000
        · have H1 := Lib.hid h1
          have HE := Lib.hid (HV.out.trans (areR_bad hix (by rw [HP.out]; unfold repOk; rw [h0, h1]; rfl)))
          clear h0 h1
          go_wp2_with (first | (go_at_call 61; refine (l1In_any _ _ _ _).mono ?_; rw [H0.out]; rintro e w' ⟨rfl, rfl⟩) | (go_at_call 77; refine (l9Stamp_any _ _).mono ?_; (first | rw [H1.out]); rintro e w' ⟨rfl, rfl⟩))
          go_ret
          exact ⟨ret_bool HE.out.symm, HB.out⟩
        · have H1 := Lib.hid h1
          cases h2 : inR z 0 100000
          · have H2 := Lib.hid h2
            have HE := Lib.hid (HV.out.trans (areR_bad hix (by rw [HP.out]; unfold repOk; rw [h0, h1, h2]; rfl)))
            clear h0 h1 h2
            go_wp2_with (first | (go_at_call 61; refine (l1In_any _ _ _ _).mono ?_; rw [H0.out]; rintro e w' ⟨rfl, rfl⟩) | (go_at_call 77; refine (l9Stamp_any _ _).mono ?_; (first | rw [H1.out] | rw [H2.out]); rintro e w' ⟨rfl, rfl⟩))
            go_ret
            exact ⟨ret_bool HE.out.symm, HB.out⟩
          · have H2 := Lib.hid h2
            have HOK : Hid (repOk (rep xs i) = true) := Lib.hid (by rw [HP.out]; unfold repOk; rw [h0, h1, h2]; rfl)
            clear h0 h1 h2
            go_wp2_with (first | (go_at_call 61; refine (l1In_any _ _ _ _).mono ?_; rw [H0.out]; rintro e w' ⟨rfl, rfl⟩) | (go_at_call 77; refine (l9Stamp_any _ _).mono ?_; (first | rw [H1.out] | rw [H2.out]); rintro e w' ⟨rfl, rfl⟩))
            clear hw0 hw1 hw2
            go_loopw [4] (fun s wr2 => ∃ k : Nat, k ≤ i ∧ s = .int .i64 k ∧ Hid (∀ j, j < k → ¬ (rep xs j).2.1 = (rep xs i).2.1) ∧ Below W.heap.size W wr2) (fun s _ => i - (intOf s).toNat)
            case atStart => exact ⟨0, Nat.zero_le _, rfl, Lib.hid (fun j hj => absurd hj (Nat.not_lt_zero _)), HB.out⟩
            case round =>
              clear HB
              obtain ⟨k, hk, rfl, HK, hb⟩ := hrel
              have HB := Lib.hid hb
              by_cases hki : k < i
              · have hy := (hb.cell (p := ⟨b, o + i * 3 + 1, none⟩) hb0).trans (HC.out i hlt).2.1
                have hu := (hb.cell (p := ⟨b, o + k * 3 + 1, none⟩) hb0).trans (HC.out k (by omega)).2.1
                rw [HP.out] at hy
                obtain ⟨u, hue⟩ : ∃ u, u = (rep xs k).2.1 := ⟨_, rfl⟩
                rw [← hue] at hu
                have HU := Lib.hid hue
                have j0 : (0 : Int) ≤ (k : Int) := by omega
                have j1 : (k : Int) < (len : Int) := by omega
                have j2 : (0 : Int) ≤ (i : Int) := by omega
                have j3 : (i : Int) < (len : Int) := by omega
                clear hb hue
                by_cases he : u = y
                · have HE := Lib.hid (HV.out.trans (areR_twice hix hki (by rw [← HU.out, HP.out]; exact he)))
                  subst he
                  go_wp2_with fail
                  go_quiet (fail)
                  go_wp2
                  go_ret
                  exact ⟨ret_bool HE.out.symm, below_drewN HB.out _⟩
                · have HN : Hid (¬ (rep xs k).2.1 = (rep xs i).2.1) := Lib.hid (by rw [← HU.out, HP.out]; exact he)
                  go_wp2_with fail
                  go_quiet (fail)
                  go_wp2
                  go_roundw
                  case rel => exact ⟨k + 1, by omega, by go_num, Lib.hid (next_all HK.out HN.out), below_drewN HB.out _⟩
                  case measure => simp [intOf]; omega
              · clear hb
                obtain rfl : k = i := by omega
                go_wp2
                go_roundw
                case rel => exact ⟨k + 1, by omega, by go_num, Lib.hid (next_all HR.out ⟨HOK.out, HK.out⟩), HB.out⟩
                case measure => simp [intOf]; omega
    · clear hb
      obtain rfl : i = len := by omega
      have HE := Lib.hid (HV.out.trans (areR_all (fun j hj => HR.out j (by rw [← HL.out]; exact hj))))
      have HE2 : Hid (v = decide ((i : Int) ≤ 12)) := Lib.hid (by rw [HE.out, HL.out]; exact decide_eq_decide.2 (by omega))
      go_wp2
      go_ret
      exact ⟨ret_bool HE2.out.symm, HB.out⟩
end Go.Proofs.Ytgninjdnfidpcaa
