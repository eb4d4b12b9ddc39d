/- FitsMap, the program's. -/
import Derived.Test.YtbjjgcfmdlinaaaTrP3
import Derived.Test.YtbjjgcfmdlinaaaTrN
import Derived.Test.YtbjjgcfmdlinaaaNetW
namespace Go.Proofs.Ytbjjgcfmdlinaaa
open Go.RowKit
def lacksL (ls : List (Int × Int)) (e : Int × Int) : Bool := decide (lk ls e.1 e.2 < 0)
theorem fits_prog {n : Int} {ls : List (Int × Int)} {ms : List (List Int)} : fitsB n ls ms = (netB n ls && (areT ms && !((mapV ms).any (lacksL ls)))) := by
  unfold fitsB
  congr 2
  rw [List.not_any_eq_all_not]
  congr 1
  funext e
  unfold lacksL
  rw [← decide_not]
  congr 1
  simp
set_option maxRecDepth 20000 in
set_option maxHeartbeats 1600000 in
theorem fits1_any (W : World) (B : Nat) (n : Int) (a : Option Addr) (len cap : Nat) (ls : List (Int × Int)) (x y : Int) (hl : len ≤ 1073741824) (hN : NetAt W B n a len cap) (hs : SeesL W a len ls) :
    Calls Try.prog 44 #[.agg #[.int .i64 x, .int .i64 y], .pointer (some ⟨B, 0, none⟩)] W fun e w' => e = .returned (.bool (lacksL ls (x, y))) ∧ Below W.heap.size W w' := by
  obtain ⟨V, hV⟩ : ∃ V, V = W.alloc (.cells #[.int .i64 x, .int .i64 y] 38) := ⟨_, rfl⟩
  have HBV : Hid (Below W.heap.size W V) := Lib.hid (by rw [hV]; exact below_new _ _)
  have HNV := Lib.hid (hN.below HBV.out)
  have HS := Lib.hid (hs.below HBV.out)
  have HPV := Lib.hid (show PairAt V W.heap.size x y by rw [hV]; exact pair_new _ _ _ _)
  have c0 := HNV.out.c0
  have c1 := HNV.out.c1
  have p0 := HPV.out.c0
  have p1 := HPV.out.c1
  obtain ⟨v, hv⟩ : ∃ v, v = lk ls x y := ⟨_, rfl⟩
  have HV := Lib.hid hv
  have HE : Hid (lacksL ls (x, y) = decide (v < 0)) := Lib.hid (by rw [hv]; rfl)
  rw [HE.out]
  clear hN hs hv
  rw [hV] at c0 c1 p0 p1
  go_enter Try.func44, Try.ntmps44
  go_wp2_with fail
  rw [← hV]
  clear hV c0 c1 p0 p1
  go_wp2_with (go_at_call 16; refine (lkP_any V n a len cap ls x y hl HS.out).mono ?_; rw [← HV.out]; rintro e w2 ⟨rfl, hb2⟩; have HB2 := Lib.hid (below_up HBV.out hb2 (Nat.le_refl _)); clear hb2)
  go_ret
  exact ⟨rfl, HB2.out⟩
set_option maxRecDepth 20000 in
set_option maxHeartbeats 1600000 in
theorem idxFit_any (W : World) (B : Nat) (n : Int) (a : Option Addr) (len cap : Nat) (ls : List (Int × Int)) (hl : len ≤ 1073741824) (hN : NetAt W B n a len cap) (hs : SeesL W a len ls) (c : Option Addr) (lm cm : Nat) (zs : List (Int × Int)) (hlm : lm ≤ 1073741824) (hz : SeesL W c lm zs) :
    Calls Try.prog 47 #[.slice c lm cm, .func (.func 44) #[] #[.pointer (some ⟨B, 0, none⟩)]] W fun e w' => e = .returned (.int .i64 (idxG (lacksL ls) zs)) ∧ Below W.heap.size W w' := by
  have HN := Lib.hid hN
  have HS := Lib.hid hs
  have HZ := Lib.hid hz
  have HL := Lib.hid hz.1
  clear hs hN hz
  obtain ⟨v, hv⟩ : ∃ v : Int, v = idxG (lacksL ls) zs := ⟨_, rfl⟩
  rw [← hv]
  have HV := Lib.hid hv
  clear hv
  go_enter Try.func47, Try.ntmps47
  go_wp2
  go_loopw [8, 5] (fun i _ wr => ∃ k : Nat, k ≤ lm ∧ i = .int .i64 k ∧ Hid (∀ j, j < k → lacksL ls (zs.getD j (0, 0)) = false) ∧ Below W.heap.size W wr) (fun i _ _ => lm - (intOf i).toNat)
  case atStart => exact ⟨0, Nat.zero_le _, rfl, Lib.hid (fun j hj => by omega), Below.refl _ _⟩
  case round =>
    obtain ⟨k, hk, rfl, HA, hb⟩ := hrel
    have HB := Lib.hid hb
    by_cases hlt : k < lm
    · obtain ⟨b2, o2, rfl, hb2, hx0, hx1, hi0, hi1⟩ := (HZ.out.below HB.out).spot hlt
      obtain ⟨s, t, hcd⟩ : ∃ s t, zs.getD k (0, 0) = (s, t) := ⟨_, _, rfl⟩
      rw [hcd] at hx0 hx1
      have HCD := Lib.hid hcd
      clear hcd hb hi0 hi1
      cases hin : lacksL ls (s, t)
      · have HIN := Lib.hid hin
        clear hin
        go_wp2_with (go_at_call 44; refine (fits1_any _ B n a len cap ls s t hl (HN.out.below HB.out) (HS.out.below HB.out)).mono ?_; rw [HIN.out]; rintro e w2 ⟨rfl, hb2'⟩; have HB2 := Lib.hid (below_up HB.out hb2' (Nat.le_refl _)); clear hb2')
        go_roundw
        case rel => exact ⟨k + 1, by omega, by go_num, Lib.hid (next_all HA.out (by rw [HCD.out]; exact HIN.out)), HB2.out⟩
        case measure => simp [intOf]; omega
      · have HE : Hid (v = k) := Lib.hid (by rw [HV.out]; exact idxG_at (0, 0) (by rw [HL.out]; exact hlt) (by rw [HCD.out]; exact hin) HA.out)
        have HIN := Lib.hid hin
        clear hin
        go_wp2_with (go_at_call 44; refine (fits1_any _ B n a len cap ls s t hl (HN.out.below HB.out) (HS.out.below HB.out)).mono ?_; rw [HIN.out]; rintro e w2 ⟨rfl, hb2'⟩; have HB2 := Lib.hid (below_up HB.out hb2' (Nat.le_refl _)); clear hb2')
        go_ret
        exact ⟨ret_int HE.out.symm, HB2.out⟩
    · obtain rfl : k = lm := by omega
      have HE : Hid (v = -1) := Lib.hid (by rw [HV.out]; exact idxG_none (0, 0) (fun j hj => HA.out j (by rw [HL.out] at hj; exact hj)))
      clear hb
      go_wp2
      go_ret
      exact ⟨ret_int HE.out.symm, HB.out⟩
theorem hasFit_any (W : World) (B : Nat) (n : Int) (a : Option Addr) (len cap : Nat) (ls : List (Int × Int)) (hl : len ≤ 1073741824) (hN : NetAt W B n a len cap) (hs : SeesL W a len ls) (c : Option Addr) (lm cm : Nat) (zs : List (Int × Int)) (hlm : lm ≤ 1073741824) (hz : SeesL W c lm zs) :
    Calls Try.prog 43 #[.slice c lm cm, .func (.func 44) #[] #[.pointer (some ⟨B, 0, none⟩)]] W fun e w' => e = .returned (.bool (zs.any (lacksL ls))) ∧ Below W.heap.size W w' := by
  have HX := Lib.hid (idxFit_any W B n a len cap ls hl hN hs c lm cm zs hlm hz)
  have HC := Lib.hid (idxG_any (lacksL ls) zs)
  obtain ⟨i, hi⟩ : ∃ i, idxG (lacksL ls) zs = i := ⟨_, rfl⟩
  rw [hi] at HC HX
  rw [← HC.out]
  clear hi hs hN hz
  go_enter Try.func43, Try.ntmps43
  go_wp2_with (go_at_call 47; refine HX.out.mono ?_; rintro e w1 ⟨rfl, hb1⟩; have HB1 := Lib.hid hb1; clear hb1)
  go_ret
  exact ⟨rfl, HB1.out⟩
set_option maxRecDepth 20000 in
set_option maxHeartbeats 1600000 in
theorem fitsP_any (W : World) (n : Int) (a : Option Addr) (len cap : Nat) (ls : List (Int × Int)) (c : Option Addr) (lm cm : Nat) (ms : List (List Int)) (hl : len ≤ 1073741824) (hs : SeesL W a len ls) (hsm : SmallM ms) (hm : SeesM W c lm ms) :
    Calls Try.prog 14 #[.agg #[.int .i64 n, .slice a len cap], .slice c lm cm] W fun e w' => e = .returned (.bool (fitsB n ls ms)) ∧ Below W.heap.size W w' := by
  obtain ⟨V, hV⟩ : ∃ V, V = W.alloc (.cells #[.int .i64 n, .slice a len cap] 26) := ⟨_, rfl⟩
  have HBV : Hid (Below W.heap.size W V) := Lib.hid (by rw [hV]; exact below_new _ _)
  have HN := Lib.hid (show NetAt V W.heap.size n a len cap by rw [hV]; exact net_new _ _ _ _ _ _)
  have HS := Lib.hid (hs.below HBV.out)
  have HM := Lib.hid (hm.below HBV.out)
  have HSM := Lib.hid hsm
  have HML : Hid ((mapV ms).length ≤ 1073741824) := Lib.hid (by have h1 := mapV_len ms; omega)
  have c0 := HN.out.c0
  have c1 := HN.out.c1
  obtain ⟨v, hv⟩ : ∃ v, v = fitsB n ls ms := ⟨_, rfl⟩
  rw [← hv]
  have HV : Hid (v = (netB n ls && (areT ms && !((mapV ms).any (lacksL ls))))) := Lib.hid (by rw [hv, fits_prog])
  clear hs hm hsm hv
  cases h1 : netB n ls
  · have H1 := Lib.hid h1
    have HE : Hid (false = v) := Lib.hid (by rw [HV.out, h1]; rfl)
    clear h1
    go_enter Try.func14, Try.ntmps14
    go_wp2_with fail
    rw [← hV]
    clear hV
    go_wp2_with (go_at_call 15; refine (netP_any V n a len cap ls hl HS.out).mono ?_; rw [H1.out]; rintro e w1 ⟨rfl, hb1⟩; have HB1 := Lib.hid (below_up HBV.out hb1 (Nat.le_refl _)); clear hb1)
    go_ret
    exact ⟨ret_bool HE.out, HB1.out⟩
  cases h2 : areT ms
  · have H1 := Lib.hid h1
    have H2 := Lib.hid h2
    have HE : Hid (false = v) := Lib.hid (by rw [HV.out, h1, h2]; rfl)
    clear h1 h2
    go_enter Try.func14, Try.ntmps14
    go_wp2_with fail
    rw [← hV]
    clear hV
    go_wp2_with (first
      | (go_at_call 15; refine (netP_any V n a len cap ls hl HS.out).mono ?_; rw [H1.out]; rintro e w1 ⟨rfl, hb1⟩; have HM1 := Lib.hid (HM.out.below hb1); have HB1 := Lib.hid (below_up HBV.out hb1 (Nat.le_refl _)); clear hb1)
      | (go_at_call 12; refine (areTP_any _ c lm cm ms HSM.out HM1.out).mono ?_; rw [H2.out]; rintro e w2 ⟨rfl, hb2⟩; have HB2 := Lib.hid (below_up HB1.out hb2 (Nat.le_refl _)); clear hb2))
    go_ret
    exact ⟨ret_bool HE.out, HB2.out⟩
  have H1 := Lib.hid h1
  have H2 := Lib.hid h2
  have HE : Hid ((!((mapV ms).any (lacksL ls))) = v) := Lib.hid (by rw [HV.out, h1, h2]; rfl)
  clear h1 h2
  go_enter Try.func14, Try.ntmps14
  go_wp2_with fail
  rw [← hV]
  clear hV
  go_wp2_with (first
    | (go_at_call 15; refine (netP_any V n a len cap ls hl HS.out).mono ?_; rw [H1.out]; rintro e w1 ⟨rfl, hb1⟩; have HM1 := Lib.hid (HM.out.below hb1); have HS1 := Lib.hid (HS.out.below hb1); have HN1 := Lib.hid (HN.out.below hb1); have HB1 := Lib.hid (below_up HBV.out hb1 (Nat.le_refl _)); clear hb1)
    | (go_at_call 12; refine (areTP_any _ c lm cm ms HSM.out HM1.out).mono ?_; rw [H2.out]; rintro e w2 ⟨rfl, hb2⟩; have HM2 := Lib.hid (HM1.out.below hb2); have HS2 := Lib.hid (HS1.out.below hb2); have HN2 := Lib.hid (HN1.out.below hb2); have HB2 := Lib.hid (below_up HB1.out hb2 (Nat.le_refl _)); clear hb2)
    | (go_at_call 11; refine (mapP_any _ c lm cm ms HSM.out HM2.out).mono ?_; rintro e w3 ⟨a3, l3, c3, rfl, ho3, hb3⟩; have HZ3 := Lib.hid ho3.sees; have HL3 : Hid (l3 ≤ 1073741824) := Lib.hid (by rw [← ho3.1]; exact HML.out); have HS3 := Lib.hid (HS2.out.below hb3); have HN3 := Lib.hid (HN2.out.below hb3); have HB3 := Lib.hid (below_up HB2.out hb3 (Nat.le_refl _)); clear ho3 hb3)
    | (go_at_call 43; refine (hasFit_any _ _ n a len cap ls hl HN3.out HS3.out _ _ _ _ HL3.out HZ3.out).mono ?_; rintro e w4 ⟨rfl, hb4⟩; have HB4 := Lib.hid (below_up HB3.out hb4 (Nat.le_refl _)); clear hb4))
  go_ret
  exact ⟨ret_bool HE.out, HB4.out⟩
end Go.Proofs.Ytbjjgcfmdlinaaa
