/- FitsMap, the model's. -/
import Derived.Test.YtbjjgcfmdlinaaaTrO
import Derived.Test.YtbjjgcfmdlinaaaNetW
namespace Go.Proofs.Ytbjjgcfmdlinaaa
open Go.RowKit
def fitsB (n : Int) (ls : List (Int × Int)) (ms : List (List Int)) : Bool := netB n ls && (areT ms && (mapV ms).all (fun e => decide (0 ≤ lk ls e.1 e.2)))
theorem fits_net {n : Int} {ls : List (Int × Int)} {ms : List (List Int)} (h : netB n ls = false) : fitsB n ls ms = false := by unfold fitsB; rw [h]; rfl
theorem fits_tr {n : Int} {ls : List (Int × Int)} {ms : List (List Int)} (h : areT ms = false) : fitsB n ls ms = false := by unfold fitsB; rw [h]; simp
theorem fits_no {n : Int} {ls : List (Int × Int)} {ms : List (List Int)} {r : Nat} (hr : r < (mapV ms).length) (h : lk ls ((mapV ms).getD r (0, 0)).1 ((mapV ms).getD r (0, 0)).2 < 0) : fitsB n ls ms = false := by
  have h2 : (mapV ms).all (fun e => decide (0 ≤ lk ls e.1 e.2)) = false := by
    rw [List.all_eq_false]
    exact ⟨_, getL_mem hr, by simp only [decide_eq_true_eq]; omega⟩
  unfold fitsB
  rw [h2]
  simp
theorem fits_yes {n : Int} {ls : List (Int × Int)} {ms : List (List Int)} (h1 : netB n ls = true) (h2 : areT ms = true) (h : ∀ r, r < (mapV ms).length → 0 ≤ lk ls ((mapV ms).getD r (0, 0)).1 ((mapV ms).getD r (0, 0)).2) : fitsB n ls ms = true := by
  have h3 : (mapV ms).all (fun e => decide (0 ≤ lk ls e.1 e.2)) = true := by
    rw [List.all_eq_true]
    intro e he
    obtain ⟨r, hr, e1⟩ := List.getElem_of_mem he
    have := h r hr
    rw [show (mapV ms).getD r (0, 0) = e by simp [List.getD, hr, e1]] at this
    exact decide_eq_true this
  unfold fitsB
  rw [h1, h2, h3]
  rfl
theorem ret_boolN {a b : Bool} (h : a = b) : (Ending.returned (.bool a)) = .returned (.bool b) := by rw [h]
set_option maxRecDepth 20000 in
set_option maxHeartbeats 6400000 in
theorem specFits_any (W : World) (n : Int) (a : Option Addr) (len cap : Nat) (ls : List (Int × Int)) (c : Option Addr) (lm cm : Nat) (ms : List (List Int)) (hl : len ≤ 1073741824) (hs : SeesL W a len ls) (hlm : lm ≤ 1073741824) (hsm : SeesM W c lm ms) :
    Calls Try.prog 29 #[.agg #[.int .i64 n, .slice a len cap], .slice c lm cm] W fun e w' => e = .returned (.bool (fitsB n ls ms)) ∧ Below W.heap.size W w' := by
  obtain ⟨V, hV⟩ : ∃ V, V = W.alloc (.cells #[.int .i64 n, .slice a len cap] 26) := ⟨_, rfl⟩
  have HBV : Hid (Below W.heap.size W V) := Lib.hid (by rw [hV]; exact below_new _ _)
  have hzV : V.heap.size = W.heap.size + 1 := by rw [hV]; simp
  have HN := Lib.hid (show NetAt V W.heap.size n a len cap by rw [hV]; exact net_new _ _ _ _ _ _)
  have HS := Lib.hid (hs.below HBV.out)
  have HM := Lib.hid (hsm.below HBV.out)
  clear hs hsm
  obtain ⟨v, hv⟩ : ∃ v, v = fitsB n ls ms := ⟨_, rfl⟩
  rw [← hv]
  have HV := Lib.hid hv
  clear hv
  cases hnb : netB n ls
  · have HE := Lib.hid (HV.out.trans (fits_net hnb))
    have HNB := Lib.hid hnb
    clear hnb
    go_enter Try.func29, Try.ntmps29
    go_wp2_with fail
    rw [← hV]
    clear hV
    refine (specNet_any V n a len cap ls hl HS.out).mono ?_
    rw [HNB.out]
    rintro e w2 ⟨rfl, hb2⟩
    have HB2 := Lib.hid (below_up HBV.out hb2 (Nat.le_refl _))
    clear hb2
    go_wp2
    go_ret
    exact ⟨ret_boolN HE.out.symm, HB2.out⟩
  have HNB := Lib.hid hnb
  clear hnb
  cases hA : areT ms
  · have HE := Lib.hid (HV.out.trans (fits_tr hA))
    have HA := Lib.hid hA
    clear hA
    go_enter Try.func29, Try.ntmps29
    go_wp2_with fail
    rw [← hV]
    clear hV
    refine (specNet_any V n a len cap ls hl HS.out).mono ?_
    rw [HNB.out]
    rintro e w2 ⟨rfl, hb2⟩
    have HB2 := Lib.hid (below_up HBV.out hb2 (Nat.le_refl _))
    have HM2 := Lib.hid (HM.out.below hb2)
    clear hb2
    go_wp2_with (go_at_call 13; refine (specAreT_any _ _ _ _ ms hlm HM2.out).mono ?_; rw [HA.out]; rintro e w3 ⟨rfl, hb3⟩; have HB3 := Lib.hid (below_up HB2.out hb3 (Nat.le_refl _)); clear hb3)
    go_ret
    exact ⟨ret_boolN HE.out.symm, HB3.out⟩
  have HA := Lib.hid hA
  have hml : (mapV ms).length ≤ 64 := mapV_len ms
  clear hA
  go_enter Try.func29, Try.ntmps29
  go_wp2_with fail
  rw [← hV]
  clear hV
  refine (specNet_any V n a len cap ls hl HS.out).mono ?_
  rw [HNB.out]
  rintro e w2 ⟨rfl, hb2⟩
  have G2 := Lib.hid hb2
  have HM2 := Lib.hid (HM.out.below hb2)
  clear hb2
  go_wp2_with (first
    | (go_at_call 13; refine (specAreT_any _ _ _ _ ms hlm HM2.out).mono ?_; rw [HA.out]; rintro e w3 ⟨rfl, hb3⟩; have G3 := Lib.hid (below_up G2.out hb3 (Nat.le_refl _)); have HM3 := Lib.hid (HM2.out.below hb3); clear hb3)
    | (go_at_call 22; refine (specMap_any _ _ _ _ ms hlm HM3.out).mono ?_; rintro e w4 ⟨a4, l4, c4, rfl, ho4, hb4⟩; have G4 := Lib.hid (below_up G3.out hb4 (Nat.le_refl _)); have HO4 := Lib.hid ho4.sees; have HL4 := Lib.hid ho4.1; clear ho4 hb4))
  have hl4 : l4 ≤ 64 := by rw [← HL4.out]; exact hml
  clear hml
  go_loopw [6] (fun s wr => ∃ r : Nat, r ≤ l4 ∧ s = .int .i64 r ∧ Hid (∀ j, j < r → 0 ≤ lk ls ((mapV ms).getD j (0, 0)).1 ((mapV ms).getD j (0, 0)).2) ∧ Below w4.heap.size w4 wr) (fun s _ => l4 - (intOf s).toNat)
  case atStart => exact ⟨0, Nat.zero_le _, rfl, Lib.hid (fun j hj => absurd hj (Nat.not_lt_zero _)), Below.refl _ _⟩
  case round =>
    obtain ⟨r, hr, rfl, HR, hb⟩ := hrel
    obtain ⟨U, rfl⟩ : ∃ U, U = wr := ⟨_, rfl⟩
    have HBU := Lib.hid hb
    have GU := Lib.hid (below_up G4.out hb (Nat.le_refl _))
    by_cases hlt : r < l4
    · obtain ⟨b4, o4, rfl, hb0, q0, q1, _, _⟩ := (HO4.out.below hb).spot hlt
      have hN := HN.out.below GU.out
      have hc0 := hN.c0
      have hc1 := hN.c1
      have HSU := Lib.hid ((HS.out.below GU.out).below (Below.refl _ _).drew)
      obtain ⟨p, q, hpq⟩ : ∃ p q, (mapV ms).getD r (0, 0) = (p, q) := ⟨_, _, rfl⟩
      have HPQ := Lib.hid hpq
      rw [hpq] at q0 q1
      obtain ⟨z, hz⟩ : ∃ z, z = lk ls p q := ⟨_, rfl⟩
      have HZ := Lib.hid hz
      have k0 : (0 : Int) ≤ (r : Int) := by omega
      have k1 : (r : Int) < (l4 : Int) := by omega
      clear hb hN hpq hz
      by_cases hz0 : z < 0
      · have HE := Lib.hid (HV.out.trans (fits_no (n := n) (ls := ls) (ms := ms) (r := r) (by rw [HL4.out]; exact hlt) (by rw [HPQ.out, ← HZ.out]; exact hz0)))
        go_wp2_with fail
        go_region_held3 (fun w' => (w'.cell? ⟨W.heap.size, 0, none⟩ = some (.int .i64 n) ∧ w'.cell? ⟨W.heap.size, 1, none⟩ = some (.slice a len cap)) ∧ (w'.cell? ⟨b4, o4 + r * 2, none⟩ = some (.int .i64 p) ∧ w'.cell? ⟨b4, o4 + r * 2 + 1, none⟩ = some (.int .i64 q))) (go_keep) (first
          | (go_at_call 60; refine (specLk_any _ n a len cap ls p q hl HSU.out).mono ?_; rw [← HZ.out]; rintro e w5 ⟨rfl, hb5⟩; have G5 := Lib.hid (below_up (GU.out.drew) hb5 (Nat.le_refl _)); have hc0 := (HN.out.below G5.out).c0; have hc1 := (HN.out.below G5.out).c1; have q0 := (hb5.cell (p := ⟨b4, o4 + r * 2, none⟩) hb0).trans q0; have q1 := (hb5.cell (p := ⟨b4, o4 + r * 2 + 1, none⟩) hb0).trans q1; clear hb5))
        all_goals
          go_wp2
          go_ret
          exact ⟨ret_boolN HE.out.symm, HBV.out.trans (G5.out.mono HBV.out.size)⟩
      · have HN2 : Hid (0 ≤ lk ls ((mapV ms).getD r (0, 0)).1 ((mapV ms).getD r (0, 0)).2) := Lib.hid (by rw [HPQ.out, ← HZ.out]; omega)
        go_wp2_with fail
        go_region_held3 (fun w' => (w'.cell? ⟨W.heap.size, 0, none⟩ = some (.int .i64 n) ∧ w'.cell? ⟨W.heap.size, 1, none⟩ = some (.slice a len cap)) ∧ (w'.cell? ⟨b4, o4 + r * 2, none⟩ = some (.int .i64 p) ∧ w'.cell? ⟨b4, o4 + r * 2 + 1, none⟩ = some (.int .i64 q))) (go_keep) (first
          | (go_at_call 60; refine (specLk_any _ n a len cap ls p q hl HSU.out).mono ?_; rw [← HZ.out]; rintro e w5 ⟨rfl, hb5⟩; have G5 := Lib.hid (below_up (HBU.out.drew) hb5 (Nat.le_refl _)); have hc0 := ((HN.out.below G4.out).below G5.out).c0; have hc1 := ((HN.out.below G4.out).below G5.out).c1; have q0 := (hb5.cell (p := ⟨b4, o4 + r * 2, none⟩) hb0).trans q0; have q1 := (hb5.cell (p := ⟨b4, o4 + r * 2 + 1, none⟩) hb0).trans q1; clear hb5))
        all_goals
          go_wp2
          go_roundw
          case rel => exact ⟨r + 1, by omega, by go_num, Lib.hid (next_allP HR.out HN2.out), G5.out⟩
          case measure => simp [intOf]; omega
    · obtain rfl : r = l4 := by omega
      have HE := Lib.hid (HV.out.trans (fits_yes HNB.out HA.out (fun j hj => HR.out j (by rw [← HL4.out]; exact hj))))
      clear hb
      go_wp2
      go_ret
      exact ⟨ret_boolN HE.out.symm, HBV.out.trans (GU.out.mono HBV.out.size)⟩
end Go.Proofs.Ytbjjgcfmdlinaaa
