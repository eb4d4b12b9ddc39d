/- AreBounds and StartBounds, the program's. -/
import Derived.Test.YthcinjlghhfhmaaBdW
import Derived.Test.YthcinjlghhfhmaaIvP
import Derived.Test.YthcinjlghhfhmaaCtf
import Derived.Test.YthcinjlghhfhmaaRepV
namespace Go.Proofs.Ythcinjlghhfhmaa
open Go.RowKit
def noBit (x : Int) : Bool := !inR x 0 1
def noSum (z : List Int) : Bool := z.any noBit
def noDel (p : Int × Int) : Bool := !ivOk p
theorem any_noSum (ms : List (List Int)) : ms.any noSum = !bitsOk ms := by
  unfold bitsOk noSum noBit
  rw [List.not_all_eq_any_not]
  congr 1
  funext z
  rw [List.not_all_eq_any_not]
theorem any_noDel (xs : List (Int × Int)) : xs.any noDel = !ivsOk xs := by
  unfold ivsOk noDel
  rw [List.not_all_eq_any_not]
theorem noBit_says : SaysI 69 noBit := by
  refine ⟨fun _ _ => by kernel_rfl, fun x w => ?_⟩
  unfold noBit
  go_enter Try.func69, Try.ntmps69
  go_wp2_with (go_at_call 39; refine (inRange_any _ _ _ _).mono ?_; rintro e w' ⟨rfl, rfl⟩)
  go_ret
  exact ⟨rfl, Below.refl _ _⟩
theorem noSum_says : SaysR 48 noSum := by
  refine ⟨fun _ _ => by kernel_rfl, fun a len cap zs w hl hs => ?_⟩
  have HX := Lib.hid (hasI_any noBit_says w a len cap zs hl hs)
  obtain ⟨t, ht⟩ : ∃ t, zs.any noBit = t := ⟨_, rfl⟩
  have HE : Hid (noSum zs = t) := Lib.hid ht
  rw [ht] at HX
  rw [HE.out]
  clear ht hs
  go_enter Try.func48, Try.ntmps48
  go_wp2_with (go_at_call 37; refine HX.out.mono ?_; rintro e w1 ⟨rfl, hb1⟩; have HB1 := Lib.hid hb1; clear hb1)
  go_ret
  exact ⟨rfl, HB1.out⟩
theorem noDel_says : SaysV 50 noDel := by
  refine ⟨fun _ _ => by kernel_rfl, fun x y w => ?_⟩
  obtain ⟨V, hV⟩ : ∃ V, V = w.alloc (.cells #[.int .i64 x, .int .i64 y] 33) := ⟨_, rfl⟩
  have HP := Lib.hid (show PairAt V w.heap.size x y by rw [hV]; exact pair_new w x y _)
  have HB := Lib.hid (show Below w.heap.size w V by rw [hV]; exact (Below.refl _ _).alloc (Nat.le_refl _) _)
  have p0 := HP.out.c0
  have p1 := HP.out.c1
  cases h1 : isV x y
  · have H1 := Lib.hid h1
    have HE : Hid (true = noDel (x, y)) := Lib.hid (by unfold noDel ivOk; rw [h1]; rfl)
    clear h1
    go_enter Try.func50, Try.ntmps50
    go_wp2_with fail
    rw [← hV]
    clear hV
    go_wp2_with (go_at_call 15; refine (ivQ_any x y _).mono ?_; rw [H1.out]; rintro e v ⟨rfl, hb⟩; have HB := Lib.hid (below_up HB.out hb (Nat.le_refl _)); clear hb)
    go_ret
    exact ⟨ret_bool HE.out, HB.out⟩
  · have H1 := Lib.hid h1
    have HE : Hid (decide (x < 0) = noDel (x, y)) := Lib.hid (by
      unfold noDel ivOk
      rw [h1, Bool.true_and]
      by_cases h : x < 0
      · rw [decide_eq_true h, decide_eq_false (by omega)]; rfl
      · rw [decide_eq_false h, decide_eq_true (by omega)]; rfl)
    clear h1
    go_enter Try.func50, Try.ntmps50
    go_wp2_with fail
    rw [← hV]
    clear hV
    go_wp2_with (go_at_call 15; refine (ivQ_any x y _).mono ?_; rw [H1.out]; rintro e v ⟨rfl, hb⟩; have HP := Lib.hid (HP.out.below hb); have HB := Lib.hid (below_up HB.out hb (Nat.le_refl _)); have p0 := HP.out.c0; have p1 := HP.out.c1; clear hb)
    go_ret
    exact ⟨ret_bool HE.out, HB.out⟩
set_option maxHeartbeats 1600000 in
theorem bndP_any (W : World) (a : Option Addr) (len cap : Nat) (ms : List (List Int)) (b : Option Addr) (lb cb : Nat) (xs : List (Int × Int)) (n : Int) (hsm : SmallM ms) (hs : SeesM W a len ms) (hlb : lb ≤ 1073741824) (hsv : SeesV W b lb xs)
    (hn : -9223372036854775808 ≤ n) (hm : n ≤ 9223372036854775807) :
    Calls Try.prog 21 #[.slice a len cap, .slice b lb cb, .int .i64 n] W fun e w' => e = .returned (.bool (bndV ms xs n)) ∧ Below W.heap.size W w' := by
  have HS := Lib.hid hs
  have HL := Lib.hid hs.1
  have HSV := Lib.hid hsv
  have HLV := Lib.hid hsv.1
  have HSM := Lib.hid hsm
  obtain ⟨v, hv⟩ : ∃ v, v = bndV ms xs n := ⟨_, rfl⟩
  rw [← hv]
  have HV : Hid (v = (bitsOk ms && (ivsOk xs && (isMat ms n && decide (lb = len))))) := Lib.hid (by rw [hv]; unfold bndV; rw [HL.out, HLV.out])
  clear hs hsm hsv hv
  cases h1 : isMat ms n
  · have H1 := Lib.hid h1
    have HE : Hid (v = false) := Lib.hid (by rw [HV.out, h1]; simp)
    clear h1
    go_enter Try.func21, Try.ntmps21
    go_wp2_with (go_at_call 46; refine (isM_any _ a len cap ms n HSM.out hn hm HS.out).mono ?_; rw [H1.out]; rintro e w1 ⟨rfl, hb1⟩; have HB1 := Lib.hid hb1; clear hb1)
    go_ret
    exact ⟨ret_bool HE.out.symm, HB1.out⟩
  · have H1 := Lib.hid h1
    cases h2 : bitsOk ms
    · have H2 : Hid (ms.any noSum = true) := Lib.hid (by rw [any_noSum, h2]; rfl)
      have HE : Hid (v = false) := Lib.hid (by rw [HV.out, h2]; rfl)
      clear h1 h2
      go_enter Try.func21, Try.ntmps21
      go_wp2_with (first
        | (go_at_call 46; refine (isM_any _ a len cap ms n HSM.out hn hm HS.out).mono ?_; rw [H1.out]; rintro e w1 ⟨rfl, hb1⟩; have HB1 := Lib.hid hb1; clear hb1)
        | (go_at_call 47; refine (hasRw_any noSum_says _ a len cap ms HSM.out (HS.out.below HB1.out)).mono ?_; rw [H2.out]; rintro e w2 ⟨rfl, hb2⟩; have HB2 := Lib.hid (below_up HB1.out hb2 (Nat.le_refl _)); clear hb2))
      go_ret
      exact ⟨ret_bool HE.out.symm, HB2.out⟩
    · have H2 : Hid (ms.any noSum = false) := Lib.hid (by rw [any_noSum, h2]; rfl)
      by_cases h3 : lb = len
      · obtain ⟨t, ht⟩ : ∃ t, xs.any noDel = t := ⟨_, rfl⟩
        have HT := Lib.hid ht
        have HE : Hid (v = !t) := Lib.hid (by rw [HV.out, h1, h2, decide_eq_true h3, ← ht, any_noDel]; simp)
        subst h3
        clear h1 h2 ht
        go_enter Try.func21, Try.ntmps21
        go_wp2_with (first
          | (go_at_call 46; refine (isM_any _ a lb cap ms n HSM.out hn hm HS.out).mono ?_; rw [H1.out]; rintro e w1 ⟨rfl, hb1⟩; have HB1 := Lib.hid hb1; clear hb1)
          | (go_at_call 47; refine (hasRw_any noSum_says _ a lb cap ms HSM.out (HS.out.below HB1.out)).mono ?_; rw [H2.out]; rintro e w2 ⟨rfl, hb2⟩; have HB2 := Lib.hid (below_up HB1.out hb2 (Nat.le_refl _)); clear hb2)
          | (go_at_call 49; refine (hasIv_any noDel_says _ b lb cb xs hlb (HSV.out.below HB2.out)).mono ?_; rw [HT.out]; rintro e w3 ⟨rfl, hb3⟩; have HB3 := Lib.hid (below_up HB2.out hb3 (Nat.le_refl _)); clear hb3))
        go_ret
        exact ⟨ret_bool HE.out.symm, HB3.out⟩
      · have HE : Hid (v = false) := Lib.hid (by rw [HV.out, decide_eq_false h3]; simp)
        have h4 : ¬ (lb : Int) = (len : Int) := by omega
        clear h1 h2
        go_enter Try.func21, Try.ntmps21
        go_wp2_with (first
          | (go_at_call 46; refine (isM_any _ a len cap ms n HSM.out hn hm HS.out).mono ?_; rw [H1.out]; rintro e w1 ⟨rfl, hb1⟩; have HB1 := Lib.hid hb1; clear hb1)
          | (go_at_call 47; refine (hasRw_any noSum_says _ a len cap ms HSM.out (HS.out.below HB1.out)).mono ?_; rw [H2.out]; rintro e w2 ⟨rfl, hb2⟩; have HB2 := Lib.hid (below_up HB1.out hb2 (Nat.le_refl _)); clear hb2))
        go_ret
        exact ⟨ret_bool HE.out.symm, HB2.out⟩
set_option maxHeartbeats 1600000 in
theorem begP_any (W : World) (n : Int) (hn : -9223372036854775808 ≤ n) (hm : n ≤ 9223372036854775807) : Calls Try.prog 25 #[.int .i64 n] W (MadeV (begV n) W) := by
  cases h1 : inR n 1 6
  · have H1 := Lib.hid h1
    have HE := Lib.hid (begV_no h1)
    clear h1
    go_enter Try.func25, Try.ntmps25
    go_wp2_with (go_at_call 39; refine (inRange_any _ _ _ _).mono ?_; rw [H1.out]; rintro e w' ⟨rfl, rfl⟩)
    go_ret
    exact ⟨_, _, _, rfl, by rw [HE.out]; exact ownV_empty W _ (Nat.le_refl _), (Below.refl _ _).alloc (Nat.le_refl _) _⟩
  · have H1 := Lib.hid h1
    have hr := inR_true.1 h1
    obtain ⟨m, hmn⟩ : ∃ m : Nat, n = (m : Int) := ⟨n.toNat, by omega⟩
    have HE : Hid (begV n = List.replicate m (0, 100000)) := Lib.hid (by unfold begV; rw [if_pos h1, hmn]; rfl)
    subst hmn
    clear h1
    go_enter Try.func25, Try.ntmps25
    go_wp2_with (first
      | (go_at_call 39; refine (inRange_any _ _ _ _).mono ?_; rw [H1.out]; rintro e w' ⟨rfl, rfl⟩)
      | (go_at_call 52; refine (repeatV_any _ W.heap.size m (by omega) (by omega) (seesV_one (by decide) (by decide) _ _)).mono ?_; rintro e w3 ⟨a3, l3, c3, rfl, ho3, hb3⟩; have HO3 := Lib.hid (ho3.wide (lo2 := W.heap.size) (by simp) (Nat.le_refl _) (Nat.le_refl _)); have HB3 := Lib.hid (below_up ((Below.refl W.heap.size W).alloc (Nat.le_refl _) _) hb3 (Nat.le_refl _)); clear ho3 hb3))
    go_ret
    exact ⟨_, _, _, rfl, by rw [HE.out]; exact HO3.out, HB3.out⟩
end Go.Proofs.Ythcinjlghhfhmaa
