/- IsMatrix, the program's. -/
import Derived.Test.YtbclnklejleobaaIdx
namespace Go.Proofs.Ytbclnklejleobaa
open Go.RowKit
theorem has_yes {p : Int → Bool} {zs : List Int} {k : Nat} (hk : k < zs.length) (h : p (zs.getD k 0) = true) : hasV p zs = true := by
  have hs := findA_spec (fun j => if p (zs.getD j 0) then (1 : Int) else 0) zs.length 0
  unfold hasV idxV
  rw [decide_eq_true_iff, if_neg]
  · omega
  · intro e
    have := hs.2.2.1 k (Nat.zero_le _) (by omega)
    simp only [h] at this
    exact absurd this (by decide)
theorem has_no {p : Int → Bool} {zs : List Int} (h : hasV p zs = false) {k : Nat} (hk : k < zs.length) : p (zs.getD k 0) = false := by
  cases h1 : p (zs.getD k 0)
  · rfl
  · rw [has_yes hk h1] at h; cases h
theorem has_where {p : Int → Bool} {zs : List Int} (h : hasV p zs = true) : ∃ k, k < zs.length ∧ p (zs.getD k 0) = true := by
  rcases Classical.em (∃ k, k < zs.length ∧ p (zs.getD k 0) = true) with h1 | h1
  · exact h1
  · have : idxV p zs = -1 := idxV_none fun j hj => by
      cases h2 : p (zs.getD j 0)
      · rfl
      · exact absurd ⟨j, hj, h2⟩ h1
    unfold hasV at h
    rw [this] at h
    exact absurd h (by decide)
theorem rowOk_beyond {cols : Int} {zs : List Int} (h : hasV beyondP zs = true) : rowOk cols zs = false := by
  obtain ⟨k, hk, h1⟩ := has_where h
  exact rowOk_cell hk (by unfold beyondP at h1; cases h2 : inR (zs.getD k 0) (-2) 2; rfl; rw [h2] at h1; exact absurd h1 (by decide))
theorem rowOk_within {cols : Int} {zs : List Int} (hl : (zs.length : Int) = cols) (h : hasV beyondP zs = false) : rowOk cols zs = true :=
  rowOk_yes hl fun k hk => by have := has_no h hk; unfold beyondP at this; cases h2 : inR (zs.getD k 0) (-2) 2; rw [h2] at this; exact absurd this (by decide); rfl
set_option maxHeartbeats 1600000 in
theorem isM_any (W : World) (a : Option Addr) (len cap : Nat) (ms : List (List Int)) (cols : Int) (hsm : SmallM ms) (hn : -9223372036854775808 ≤ cols) (hm : cols ≤ 9223372036854775807) (hs : SeesM W a len ms) :
    Calls Try.prog 14 #[.slice a len cap, .int .i64 cols] W fun e w' => e = .returned (.bool (isMat ms cols)) ∧ Below W.heap.size W w' := by
  have HS := Lib.hid hs
  have HL := Lib.hid hs.1
  have hl : len ≤ 1048576 := by unfold SmallM at hsm; have := hs.1; omega
  have HSM := Lib.hid hsm
  obtain ⟨v, hv⟩ : ∃ v, v = isMat ms cols := ⟨_, rfl⟩
  rw [← hv]
  have HV := Lib.hid hv
  clear hs hsm hv
  cases h1 : inR cols 1 6
  · have HE := Lib.hid (HV.out.trans (isMat_cols (ms := ms) h1))
    go_enter Try.func14, Try.ntmps14
    go_wp2_with (go_at_call 38; refine (inRange_any _ _ _ _).mono ?_; rw [h1]; rintro e w' ⟨rfl, rfl⟩)
    go_ret
    exact ⟨ret_bool HE.out.symm, Below.refl _ _⟩
  · by_cases h2 : (12 : Int) < (len : Int)
    · have HE := Lib.hid (HV.out.trans (isMat_many (cols := cols) (by rw [HL.out]; omega)))
      go_enter Try.func14, Try.ntmps14
      go_wp2_with (go_at_call 38; refine (inRange_any _ _ _ _).mono ?_; rw [h1]; rintro e w' ⟨rfl, rfl⟩)
      go_ret
      exact ⟨ret_bool HE.out.symm, Below.refl _ _⟩
    · obtain ⟨c0, c1⟩ := inR_true.1 h1
      have H1 := Lib.hid h1
      go_enter Try.func14, Try.ntmps14
      go_wp2_with (go_at_call 38; refine (inRange_any _ _ _ _).mono ?_; rw [H1.out]; rintro e w' ⟨rfl, rfl⟩)
      clear h1
      go_loop [17, 6] (fun i _ => ∃ k : Nat, k ≤ len ∧ i = .int .i64 k ∧ Hid (∀ r, r < k → rowOk cols (row ms r) = true)) (fun i _ => len - (intOf i).toNat)
      case atStart => exact ⟨0, Nat.zero_le _, rfl, Lib.hid (fun r hr => by omega)⟩
      case round =>
        obtain ⟨i, hi, rfl, HR⟩ := hrel
        by_cases hlt : i < len
        · have him : i < ms.length := by rw [HL.out]; exact hlt
          obtain ⟨b, off, ar, cr, rfl, hbl, hc, _, _, hsr⟩ := HS.out.2 i hlt
          obtain ⟨zs, hzs⟩ : ∃ zs, zs = row ms i := ⟨_, rfl⟩
          rw [← hzs] at hc hsr
          have HZ := Lib.hid hzs
          have hzl : zs.length ≤ 1048576 := by have := HSM.out.row him; rw [hzs]; omega
          have HSR := Lib.hid hsr
          clear hsr hzs
          by_cases hne : (zs.length : Int) = cols
          · cases hbe : hasV beyondP zs
            · have HBE := Lib.hid hbe
              have HOK := Lib.hid (rowOk_within hne hbe)
              clear hbe
              go_wp2_with (go_at_call 39; refine (hasBeyond_any _ _ _ _ zs (by omega) HSR.out).mono ?_; rw [HBE.out]; rintro e w' ⟨rfl, rfl⟩)
              go_round
              case rel => exact ⟨i + 1, by omega, by go_num, Lib.hid (fun r hr => by rcases Nat.lt_or_eq_of_le (Nat.lt_succ_iff.1 hr) with h | h; exact HR.out r h; subst h; rw [← HZ.out]; exact HOK.out)⟩
              case measure => simp [intOf]; omega
            · have HBE := Lib.hid hbe
              have HE := Lib.hid (HV.out.trans (isMat_row him (by rw [← HZ.out]; exact rowOk_beyond (cols := cols) hbe)))
              clear hbe
              go_wp2_with (go_at_call 39; refine (hasBeyond_any _ _ _ _ zs (by omega) HSR.out).mono ?_; rw [HBE.out]; rintro e w' ⟨rfl, rfl⟩)
              go_ret
              exact ⟨ret_bool HE.out.symm, Below.refl _ _⟩
          · have HE := Lib.hid (HV.out.trans (isMat_row him (rowOk_len (cols := cols) (by rw [← HZ.out]; exact hne))))
            go_wp2
            go_ret
            exact ⟨ret_bool HE.out.symm, Below.refl _ _⟩
        · have HE := Lib.hid (HV.out.trans (isMat_yes H1.out (by rw [HL.out]; omega) (fun r hr => HR.out r (by rw [HL.out] at hr; omega))))
          go_wp2
          go_ret
          exact ⟨ret_bool HE.out.symm, Below.refl _ _⟩
end Go.Proofs.Ytbclnklejleobaa
