/- IsMatrix. -/
import Derived.Test.YtbclnklejleobaaMat
namespace Go.Proofs.Ytbclnklejleobaa
open Go.RowKit
set_option maxHeartbeats 1600000 in
theorem specIsM_any (W : World) (a : Option Addr) (len cap : Nat) (ms : List (List Int)) (cols : Int) (hsm : SmallM ms) (hn : -9223372036854775808 ≤ cols) (hm : cols ≤ 9223372036854775807) (hs : SeesM W a len ms) :
    Calls Try.prog 15 #[.slice a len cap, .int .i64 cols] W fun e w' => e = .returned (.bool (isMat ms cols)) ∧ Below W.heap.size W w' := by
  have HS := Lib.hid hs
  have HL := Lib.hid hs.1
  have hl : len ≤ 1048576 := by unfold SmallM at hsm; have := hs.1; omega
  have HSM := Lib.hid hsm
  obtain ⟨v, hv⟩ : ∃ v, v = isMat ms cols := ⟨_, rfl⟩
  rw [← hv]
  have HV := Lib.hid hv
  clear hs hsm hv
  cases h1 : inR cols 1 6
  · have HE := Lib.hid (HV.out.trans (isMat_cols (ms := ms) h1))
    go_enter Try.func15, Try.ntmps15
    go_wp2_with (go_at_call 41; refine (l1In_any _ _ _ _).mono ?_; rintro e w' ⟨rfl, rfl⟩)
    go_ret
    exact ⟨ret_bool HE.out.symm, Below.refl _ _⟩
  · by_cases h2 : (12 : Int) < (len : Int)
    · have HE := Lib.hid (HV.out.trans (isMat_many (cols := cols) (by rw [HL.out]; omega)))
      go_enter Try.func15, Try.ntmps15
      go_wp2_with (go_at_call 41; refine (l1In_any _ _ _ _).mono ?_; rintro e w' ⟨rfl, rfl⟩)
      go_ret
      exact ⟨ret_bool HE.out.symm, Below.refl _ _⟩
    · obtain ⟨c0, c1⟩ := inR_true.1 h1
      have H1 := Lib.hid h1
      go_enter Try.func15, Try.ntmps15
      go_wp2_with (go_at_call 41; refine (l1In_any _ _ _ _).mono ?_; rintro e w' ⟨rfl, rfl⟩)
      clear h1
      go_loopw [5, 6] (fun i _ wr => ∃ k : Nat, k ≤ len ∧ i = .int .i64 k ∧ Hid (∀ r, r < k → rowOk cols (row ms r) = true) ∧ Below W.heap.size W wr) (fun i _ _ => len - (intOf i).toNat)
      case atStart => exact ⟨0, Nat.zero_le _, rfl, Lib.hid (fun r hr => by omega), Below.refl _ _⟩
      case round =>
        obtain ⟨i, hi, rfl, HR, hb⟩ := hrel
        have HB := Lib.hid hb
        by_cases hlt : i < len
        · have him : i < ms.length := by rw [HL.out]; exact hlt
          obtain ⟨b, off, ar, cr, rfl, hbl, hc, _, _, hsr⟩ := HS.out.2 i hlt
          have hcw := (hb.cell (p := ⟨b, off + i, none⟩) hbl).trans hc
          obtain ⟨zs, hzs⟩ : ∃ zs, zs = row ms i := ⟨_, rfl⟩
          rw [← hzs] at hcw hsr
          have HZ := Lib.hid hzs
          have hzl : zs.length ≤ 1048576 := by have := HSM.out.row him; rw [hzs]; omega
          have HSR := Lib.hid hsr
          have HCW := Lib.hid hc
          clear hc hsr hzs
          by_cases hne : (zs.length : Int) = cols
          · clear hb
            go_wp2
            clear hcw
            go_loopw [6] (fun q wr2 => ∃ k : Nat, k ≤ zs.length ∧ q = .int .i64 k ∧ Hid (∀ c, c < k → inR (zs.getD c 0) (-2) 2 = true) ∧ Below W.heap.size W wr2) (fun q _ => zs.length - (intOf q).toNat)
            case atStart => exact ⟨0, Nat.zero_le _, rfl, Lib.hid (fun c hc => by omega), HB.out⟩
            case round =>
              obtain ⟨k, hk, rfl, HC, hb⟩ := hrel
              have HB2 := Lib.hid hb
              have hcw := (hb.cell (p := ⟨b, off + i, none⟩) hbl).trans HCW.out
              rw [← HZ.out] at hcw
              by_cases hkl : k < zs.length
              · rcases HSR.out.2.2 with h0 | ⟨b2, o2, rfl, hb2, hc2⟩
                · omega
                · have hcc := (hb.cell (p := ⟨b2, o2 + k, none⟩) hb2).trans (hc2 k hkl)
                  obtain ⟨x, hx⟩ : ∃ x, x = zs.getD k 0 := ⟨_, rfl⟩
                  rw [← hx] at hcc
                  have HX := Lib.hid hx
                  clear hc2 hb hx
                  cases hin : inR x (-2) 2
                  · have HE := Lib.hid (HV.out.trans (isMat_row him (rowOk_cell (cols := cols) (k := k) (by rw [← HZ.out]; exact hkl) (by rw [← HZ.out, ← HX.out]; exact hin))))
                    have HIN := Lib.hid hin
                    clear hin
                    go_wp2_with (go_at_call 41; refine (l1In_any _ _ _ _).mono ?_; rw [HIN.out]; rintro e w' ⟨rfl, rfl⟩)
                    go_ret
                    exact ⟨ret_bool HE.out.symm, HB2.out⟩
                  · have HIN := Lib.hid hin
                    clear hin
                    go_wp2_with (go_at_call 41; refine (l1In_any _ _ _ _).mono ?_; rw [HIN.out]; rintro e w' ⟨rfl, rfl⟩)
                    go_roundw
                    case rel => exact ⟨k + 1, by omega, by go_num, Lib.hid (fun c hc => by rcases Nat.lt_or_eq_of_le (Nat.lt_succ_iff.1 hc) with h | h; exact HC.out c h; subst h; rw [← HX.out]; exact HIN.out), HB2.out⟩
                    case measure => simp [intOf]; omega
              · clear hb
                obtain rfl : k = zs.length := by omega
                go_wp2
                go_roundw
                case rel => exact ⟨i + 1, by omega, by go_num, Lib.hid (fun r hr => by rcases Nat.lt_or_eq_of_le (Nat.lt_succ_iff.1 hr) with h | h; exact HR.out r h; subst h; rw [← HZ.out]; exact rowOk_yes hne HC.out), HB2.out⟩
                case measure => simp [intOf]; omega
          · have HE := Lib.hid (HV.out.trans (isMat_row him (rowOk_len (cols := cols) (by rw [← HZ.out]; exact hne))))
            clear hb
            go_wp2
            go_ret
            exact ⟨ret_bool HE.out.symm, HB.out⟩
        · clear hb
          have HE := Lib.hid (HV.out.trans (isMat_yes H1.out (by rw [HL.out]; omega) (fun r hr => HR.out r (by rw [HL.out] at hr; omega))))
          go_wp2
          go_ret
          exact ⟨ret_bool HE.out.symm, HB.out⟩
end Go.Proofs.Ytbclnklejleobaa
