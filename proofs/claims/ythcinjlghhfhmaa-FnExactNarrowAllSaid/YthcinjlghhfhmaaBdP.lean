/- NarrowOnce, NarrowAll and AllowsDelays, the program's. -/
import Derived.Test.YthcinjlghhfhmaaBdP4
namespace Go.Proofs.Ythcinjlghhfhmaa
open Go.RowKit
theorem OwnV.tight {w : World} {lo hi g len cap : Nat} {xs : List (Int × Int)} (h : OwnV w lo hi (some ⟨g, 0, none⟩) len cap xs) : OwnV w g (g + 1) (some ⟨g, 0, none⟩) len cap xs := by
  obtain ⟨g1, g2, g3, g4, g5⟩ := h
  have hb := g5 _ rfl
  simp only at hb
  refine ⟨g1, g2, by omega, ⟨g4.1, ?_⟩, fun x hx => by cases hx; exact ⟨Nat.le_refl _, Nat.lt_succ_self _⟩⟩
  rcases g4.2 with ⟨h, _⟩ | ⟨g', c, cur, hv, hlo, rest⟩
  · cases h
  · simp only [Value.slice.injEq, Option.some.injEq, Addr.mk.injEq, and_true, true_and] at hv
    obtain ⟨rfl, rfl⟩ := hv
    exact .inr ⟨g, cap, cur, rfl, Nat.le_refl _, rest⟩
theorem nwc_new (w : World) (a : Option Addr) (len cap : Nat) (b : Option Addr) (lb cb g lc cc h ld cd : Nat) (t : TypeId) : NwC (w.alloc (.cells #[.slice a len cap, .slice b lb cb, .slice (some ⟨g, 0, none⟩) lc cc, .slice (some ⟨h, 0, none⟩) ld cd] t)) w.heap.size a len cap b lb cb g lc cc h ld cd :=
  ⟨by go_simp, by go_simp, by go_simp, by go_simp, by simp⟩
theorem nw_bnd {ms : List (List Int)} {ls xs : List (Int × Int)} {n : Nat} (h : bndV ms ls xs.length = false) : nwR ms ls xs n = none := by simp [nwR, h]
theorem nw_ivs {ms : List (List Int)} {ls xs : List (Int × Int)} {n : Nat} (h : ivsOk xs = false) : nwR ms ls xs n = none := by simp [nwR, h]
set_option maxRecDepth 20000 in
set_option maxHeartbeats 6400000 in
theorem nwP_any (W : World) (a : Option Addr) (len cap : Nat) (ms : List (List Int)) (b : Option Addr) (lb cb : Nat) (ls : List (Int × Int)) (c : Option Addr) (lx cx : Nat) (xs : List (Int × Int)) (n : Nat) (hn : n ≤ 20) (hsm : SmallM ms) (hs : SeesM W a len ms) (hlb : lb ≤ 1073741824) (hsl : SeesV W b lb ls)
    (hlx : lx ≤ 1073741824) (hsx : SeesV W c lx xs) :
    Calls Try.prog 35 #[.slice a len cap, .slice b lb cb, .slice c lx cx, .int .i64 (n : Int)] W (MadeVB (nwL ms ls xs n) (nwB ms ls xs n) W) := by
  have HS := Lib.hid hs
  have HL := Lib.hid hs.1
  have HSL := Lib.hid hsl
  have HLL := Lib.hid hsl.1
  have HSX := Lib.hid hsx
  have HLX := Lib.hid hsx.1
  have HSM := Lib.hid hsm
  obtain ⟨rl, hrl⟩ : ∃ r, r = nwL ms ls xs n := ⟨_, rfl⟩
  obtain ⟨rb, hrb⟩ : ∃ r, r = nwB ms ls xs n := ⟨_, rfl⟩
  have HNO : Hid (nwR ms ls xs n = none → rl = [] ∧ rb = false) := Lib.hid (fun h => ⟨hrl.trans (nw_no h).1, hrb.trans (nw_no h).2⟩)
  have HYES : Hid (∀ q, nwR ms ls xs n = some q → rl = q ∧ rb = true) := Lib.hid (fun q h => ⟨hrl.trans (nw_yes h).1, hrb.trans (nw_yes h).2⟩)
  rw [← hrl, ← hrb]
  clear hs hsm hsl hsx hrl hrb
  cases hbd : bndV ms ls (lx : Int)
  · have HBD := Lib.hid hbd
    obtain ⟨rfl, rfl⟩ := HNO.out (nw_bnd (by rw [HLX.out]; exact hbd))
    clear hbd
    go_enter Try.func35, Try.ntmps35
    go_wp2_with (go_at_call 21; refine (bndP_any _ _ _ _ ms _ _ _ ls (lx : Int) HSM.out HS.out hlb HSL.out (by omega) (by omega)).mono ?_; rw [HBD.out]; rintro e w1 ⟨rfl, hb1⟩; have HB1 := Lib.hid hb1; clear hb1)
    go_ret2
    exact ⟨_, _, _, rfl, ownV_empty w1 _ HB1.out.size, HB1.out.alloc HB1.out.size _⟩
  · have HBD := Lib.hid hbd
    cases hok : ivsOk xs
    · have HA : Hid (xs.any noDel = true) := Lib.hid (by rw [any_noDel, hok]; rfl)
      obtain ⟨rfl, rfl⟩ := HNO.out (nw_ivs hok)
      clear hbd hok
      go_enter Try.func35, Try.ntmps35
      go_wp2_with (first
        | (go_at_call 21; refine (bndP_any _ _ _ _ ms _ _ _ ls (lx : Int) HSM.out HS.out hlb HSL.out (by omega) (by omega)).mono ?_; rw [HBD.out]; rintro e w1 ⟨rfl, hb1⟩; have HB1 := Lib.hid hb1; clear hb1)
        | (go_at_call 49; refine (hasIv_any noDel_says _ c lx cx xs hlx (HSX.out.below HB1.out)).mono ?_; rw [HA.out]; rintro e w2 ⟨rfl, hb2⟩; have HB2 := Lib.hid (below_up HB1.out hb2 (Nat.le_refl _)); clear hb2))
      go_ret2
      exact ⟨_, _, _, rfl, ownV_empty w2 _ HB2.out.size, HB2.out.alloc HB2.out.size _⟩
    · have HA : Hid (xs.any noDel = false) := Lib.hid (by rw [any_noDel, hok]; rfl)
      have HOK := Lib.hid hok
      have hmt := isMat_true (bnd_true hbd).2.2.1
      have hx1 : 0 < lx := by omega
      have hlbl : lb = len := by rw [← HLL.out, ← HL.out]; exact (bnd_true hbd).2.2.2
      have hl12 : len ≤ 12 := by have := HL.out; omega
      have HNW : Hid (nwR ms ls xs n = itR ms ls (some xs) n) := Lib.hid (by unfold nwR; rw [if_pos ⟨by rw [HLX.out]; exact hbd, hok⟩])
      clear hbd hok hmt
      subst hlbl
      go_enter Try.func35, Try.ntmps35
      go_wp2_with (first
        | (go_at_call 21; refine (bndP_any _ _ _ _ ms _ _ _ ls (lx : Int) HSM.out HS.out hlb HSL.out (by omega) (by omega)).mono ?_; rw [HBD.out]; rintro e w1 ⟨rfl, hb1⟩; have HB1 := Lib.hid hb1; clear hb1)
        | (go_at_call 49; refine (hasIv_any noDel_says _ c lx cx xs hlx (HSX.out.below HB1.out)).mono ?_; rw [HA.out]; rintro e w2 ⟨rfl, hb2⟩; have HB2 := Lib.hid (below_up HB1.out hb2 (Nat.le_refl _)); clear hb2)
        | (go_at_call 61; refine (cloneV_any _ c lx cx xs hlx hx1 (HSX.out.below HB2.out)).mono ?_; rintro e w3 ⟨a3, l3, c3, rfl, ho3, hb3⟩; obtain ⟨g, rfl⟩ : ∃ g, a3 = some ⟨g, 0, none⟩ := (by rcases ho3.spot with ⟨_, h0, _⟩ | ⟨g, h, _⟩; (have := ho3.1; have := HLX.out; omega); exact ⟨g, h⟩); obtain rfl : l3 = lx := (ho3.1.symm.trans HLX.out); have HG3 := Lib.hid (ho3.2.2.2.2 _ rfl); have HO3 := Lib.hid ho3.tight; have HB3 := Lib.hid (below_up HB2.out hb3 (Nat.le_refl _)); clear ho3 hb3)
        | (go_at_call 62; refine (repeatB_any _ w3.heap.size lb hl12 (by simp) (by go_simp)).mono ?_; rintro e w4 ⟨h, rfl, ho4, hb4⟩; have HH4 := Lib.hid (ho4.2.2.2.2 _ rfl); have HW4 := Lib.hid ho4.tight; have hb34 : Below w3.heap.size w3 w4 := (below_up ((Below.refl w3.heap.size w3).alloc (Nat.le_refl _) _) hb4 (Nat.le_refl _)); have HO4 := Lib.hid (HO3.out.below hb34); have HB4 := Lib.hid (below_up HB3.out hb34 (Nat.le_refl _)); have HS34 := Lib.hid hb34.size; clear ho4 hb4 hb34))
      obtain ⟨B, hB⟩ : ∃ B, B = w4.heap.size := ⟨_, rfl⟩
      obtain ⟨V, hV⟩ : ∃ V, V = w4.alloc (.cells #[.slice a lb cap, .slice b lb cb, .slice (some ⟨g, 0, none⟩) l3 c3, .slice (some ⟨h, 0, none⟩) lb lb] 79) := ⟨_, rfl⟩
      have hbv : Below w4.heap.size w4 V := by rw [hV]; exact (Below.refl _ _).alloc (Nat.le_refl _) _
      have HC : Hid (NwC V B a lb cap b lb cb g l3 c3 h lb lb) := Lib.hid (by rw [hV, hB]; exact nwc_new _ _ _ _ _ _ _ _ _ _ _ _ _ _)
      have HBV := Lib.hid (below_up HB4.out hbv (Nat.le_refl _))
      have HOV := Lib.hid (HO4.out.below hbv)
      have HOW := Lib.hid (HW4.out.below hbv)
      have HLY : Hid (W.heap.size ≤ g ∧ W.heap.size ≤ h ∧ g < B ∧ h < B ∧ g ≠ h) := Lib.hid (by
        have q1 := HG3.out
        have q2 := HH4.out
        have q3 := HB2.out.size
        have q4 := HB3.out.size
        have q5 := HS34.out
        simp at q1 q2
        omega)
      rw [← hB, ← hV]
      have HBS : Hid (B < V.heap.size) := HC.out.lt |> Lib.hid
      clear hbv hV hB HO4 HW4 HG3 HH4 HS34 HB4 HO3
      go_loopw [32] (fun s32 wr => ∃ (r : Nat) (q : List (Int × Int)) (us : List Bool), r ≤ n ∧ s32 = .int .i64 r ∧ Hid (itR ms ls (some xs) r = some q) ∧ Hid (Idle ms ls q us) ∧ Hid (OwnV wr g (g + 1) (some ⟨g, 0, none⟩) l3 c3 q) ∧ Hid (OwnG 4 wr h (h + 1) (some ⟨h, 0, none⟩) lb lb (bv us)) ∧ Hid (Moved W.heap.size B V wr)) (fun s32 _ => n - (intOf s32).toNat)
      case atStart => exact ⟨0, xs, List.replicate lb true, Nat.zero_le _, rfl, Lib.hid rfl, Lib.hid (idle_all _ _ _ _), HOV, Lib.hid (by have h := HOW.out; unfold bv; rw [List.map_replicate]; exact h), Lib.hid (Moved.refl _ _ _)⟩
      case round =>
        clear HOV HOW
        obtain ⟨r, q, us, hr, rfl, HQ, HID, HOV, HOW, HM⟩ := hrel
        obtain ⟨V2, rfl⟩ : ∃ V2, V2 = wr := ⟨_, rfl⟩
        have HBW := Lib.hid (below_moved HBV.out HM.out (Nat.le_refl _) (Nat.le_refl _))
        have HCV := Lib.hid (HC.out.moved HM.out (.inr (Nat.le_refl _)))
        have hqn := it_narrow HOK.out r q HQ.out
        have HQK : Hid (ivsOk q = true ∧ q.length = xs.length) := Lib.hid ⟨hqn.2.1, hqn.1⟩
        by_cases hrn : r < n
        · have HST : Hid (itR ms ls (some xs) (r + 1) = allR ms ls q lb) := Lib.hid (by rw [it_once (by rw [HLX.out]; exact HBD.out) HOK.out HQ.out, HL.out])
          have HPS := Lib.hid (passP_any W V2 B a lb cap b lb cb g l3 c3 h lb lb ms ls q us HBW.out HS.out HSL.out HCV.out HOV.out HOW.out rfl rfl HLY.out.1 HLY.out.2.1 HLY.out.2.2.1 HLY.out.2.2.2.1 HLY.out.2.2.2.2 HBD.out HQK.out.1 HID.out)
          clear hqn
          cases hp : allR ms ls q lb with
          | none =>
            obtain ⟨rfl, rfl⟩ := HNO.out (by rw [HNW.out]; exact it_stop (k := r + 1) (by rw [HST.out]; exact hp) n hrn)
            have HPN : Hid (Calls Try.prog 63 #[.pointer (some ⟨B, 0, none⟩)] V2 fun e w' => e = .returned (.bool false) ∧ Moved W.heap.size B V2 w') := Lib.hid (HPS.out.mono (fun e w' hx => by
              obtain ⟨hm, hx⟩ := hx
              rcases hx with ⟨he, _⟩ | ⟨_, _, _, h2, _⟩
              · exact ⟨he, hm⟩
              · rw [hp] at h2; cases h2))
            clear hp
            go_wp2_with (go_at_call 63; refine HPN.out.mono ?_; rintro e w5 ⟨rfl, hm5⟩; have HB5 := Lib.hid (below_moved HBW.out hm5 (Nat.le_refl _) (Nat.le_refl _)); clear hm5)
            go_ret2
            exact ⟨_, _, _, rfl, ownV_empty w5 _ HB5.out.size, HB5.out.alloc HB5.out.size _⟩
          | some p =>
            have HE : Hid (itR ms ls (some xs) (r + 1) = some p) := Lib.hid (by rw [HST.out]; exact hp)
            have HPN : Hid (Calls Try.prog 63 #[.pointer (some ⟨B, 0, none⟩)] V2 fun e w' => e = .returned (.bool true) ∧ Moved W.heap.size B V2 w' ∧ ∃ vs, Idle ms ls p vs ∧ OwnV w' g (g + 1) (some ⟨g, 0, none⟩) l3 c3 p ∧ OwnG 4 w' h (h + 1) (some ⟨h, 0, none⟩) lb lb (bv vs)) := Lib.hid (HPS.out.mono (fun e w' hx => by
              obtain ⟨hm, hx⟩ := hx
              rcases hx with ⟨_, h2⟩ | ⟨p', vs, he, h2, h3⟩
              · rw [hp] at h2; cases h2
              · rw [hp] at h2; cases h2; exact ⟨he, hm, vs, h3⟩))
            clear hp
            go_wp2_with (go_at_call 63; refine HPN.out.mono ?_; rintro e w5 ⟨rfl, hm5, vs, hi5, ho5, hg5⟩; have HM5 := Lib.hid (HM.out.trans hm5); have HI5 := Lib.hid hi5; have HO5 := Lib.hid ho5; have HG5 := Lib.hid hg5; clear hm5 hi5 ho5 hg5)
            go_roundw
            case rel => exact ⟨r + 1, p, vs, by omega, by go_num, HE, HI5, HO5, HG5, HM5⟩
            case measure => simp [intOf]; omega
        · obtain rfl : r = n := by omega
          obtain ⟨rfl, rfl⟩ := HYES.out q (by rw [HNW.out]; exact HQ.out)
          have c2 := HCV.out.c2
          clear hqn
          go_wp2
          go_ret2
          exact ⟨_, _, _, rfl, HOV.out.wide HLY.out.1 HOV.out.2.2.1 (Nat.le_refl _), HBW.out⟩
theorem onceP_any (W : World) (a : Option Addr) (len cap : Nat) (ms : List (List Int)) (b : Option Addr) (lb cb : Nat) (ls : List (Int × Int)) (c : Option Addr) (lx cx : Nat) (xs : List (Int × Int)) (hsm : SmallM ms) (hs : SeesM W a len ms) (hlb : lb ≤ 1073741824) (hsl : SeesV W b lb ls)
    (hlx : lx ≤ 1073741824) (hsx : SeesV W c lx xs) :
    Calls Try.prog 14 #[.slice a len cap, .slice b lb cb, .slice c lx cx] W (MadeVB (onceL ms ls xs) (onceB ms ls xs) W) := by
  have HX := Lib.hid (nwP_any W a len cap ms b lb cb ls c lx cx xs 1 (by decide) hsm hs hlb hsl hlx hsx)
  have e : nwL ms ls xs 1 = onceL ms ls xs ∧ nwB ms ls xs 1 = onceB ms ls xs := by unfold nwL nwB onceL onceB; rw [nw_one]; exact ⟨rfl, rfl⟩
  rw [e.1, e.2] at HX
  clear e hsm hs hsl hsx
  go_enter Try.func14, Try.ntmps14
  go_wp2_with (go_at_call 35; refine HX.out.mono ?_; rintro e w1 ⟨a1, l1, c1, rfl, ho1, hb1⟩; have HO1 := Lib.hid ho1; have HB1 := Lib.hid hb1; clear ho1 hb1)
  go_ret2
  exact ⟨_, _, _, rfl, HO1.out, HB1.out⟩
theorem narP_any (W : World) (a : Option Addr) (len cap : Nat) (ms : List (List Int)) (b : Option Addr) (lb cb : Nat) (ls : List (Int × Int)) (n : Int) (hsm : SmallM ms) (hs : SeesM W a len ms) (hlb : lb ≤ 1073741824) (hsl : SeesV W b lb ls)
    (hn : -9223372036854775808 ≤ n) (hm : n ≤ 9223372036854775807) :
    Calls Try.prog 11 #[.slice a len cap, .slice b lb cb, .int .i64 n] W (MadeVB (narL ms ls n) (narB ms ls n) W) := by
  have HS := Lib.hid hs
  have HSL := Lib.hid hsl
  have HSM := Lib.hid hsm
  have e : nwL ms ls (begV n) 20 = narL ms ls n ∧ nwB ms ls (begV n) 20 = narB ms ls n := by unfold nwL nwB narL narB; rw [nw_all]; exact ⟨rfl, rfl⟩
  have HE := Lib.hid e
  clear e hsm hs hsl
  go_enter Try.func11, Try.ntmps11
  go_wp2_with (first
    | (go_at_call 25; refine (begP_any _ n hn hm).mono ?_; rintro e w2 ⟨a2, l2, c2, rfl, ho2, hb2⟩; have hl2 : l2 ≤ 6 := (by rw [← ho2.1]; exact begV_small n); have HO2 := Lib.hid ho2.sees; have HB2 := Lib.hid hb2; clear ho2 hb2)
    | (go_at_call 35; refine (nwP_any _ a len cap ms b lb cb ls a2 l2 c2 (begV n) 20 (by decide) HSM.out (HS.out.below HB2.out) hlb (HSL.out.below HB2.out) (by omega) HO2.out).mono ?_; rw [HE.out.1, HE.out.2]; rintro e w3 ⟨a3, l3, c3, rfl, ho3, hb3⟩; have HO3 := Lib.hid (ho3.wide HB2.out.size (Nat.le_refl _) (Nat.le_refl _)); have HB3 := Lib.hid (below_up HB2.out hb3 (Nat.le_refl _)); clear ho3 hb3))
  go_ret2
  exact ⟨_, _, _, rfl, HO3.out, HB3.out⟩
def noStamp (x : Int) : Bool := !inR x 0 100000
theorem noStamp_says : SaysI 38 noStamp := by
  refine ⟨fun _ _ => by kernel_rfl, fun x w => ?_⟩
  unfold noStamp
  go_enter Try.func38, Try.ntmps38
  go_wp2_with (go_at_call 65; refine (isStP_any _ _).mono ?_; rintro e w' ⟨rfl, rfl⟩)
  go_ret
  exact ⟨rfl, Below.refl _ _⟩
theorem any_noStamp (ds : List Int) : ds.any noStamp = !ds.all (fun x => inR x 0 100000) := by
  unfold noStamp
  rw [List.not_all_eq_any_not]
set_option maxRecDepth 20000 in
set_option maxHeartbeats 3200000 in
theorem alwP_any (W : World) (a : Option Addr) (len cap : Nat) (ms : List (List Int)) (b : Option Addr) (lb cb : Nat) (ls : List (Int × Int)) (c : Option Addr) (ld cd : Nat) (ds : List Int) (hsm : SmallM ms) (hs : SeesM W a len ms) (hlb : lb ≤ 1073741824) (hsl : SeesV W b lb ls)
    (hld : ld ≤ 1073741824) (hsd : Sees .i64 W c ld ds) :
    Calls Try.prog 13 #[.slice a len cap, .slice b lb cb, .slice c ld cd] W fun e w' => e = .returned (.bool (alwV ms ls ds)) ∧ Below W.heap.size W w' := by
  have HS := Lib.hid hs
  have HL := Lib.hid hs.1
  have HSL := Lib.hid hsl
  have HLL := Lib.hid hsl.1
  have HSD := Lib.hid hsd
  have HLD := Lib.hid hsd.1
  have HSM := Lib.hid hsm
  have hl : len ≤ 1048576 := by unfold SmallM at hsm; have := hs.1; omega
  obtain ⟨v, hv⟩ : ∃ v, v = alwV ms ls ds := ⟨_, rfl⟩
  rw [← hv]
  have HV := Lib.hid hv
  clear hs hsm hsl hsd hv
  cases hbd : bndV ms ls (ld : Int)
  · have HBD := Lib.hid hbd
    have HE : Hid (v = false) := Lib.hid (HV.out.trans (alw_bnd (by rw [HLD.out]; exact hbd)))
    clear hbd
    go_enter Try.func13, Try.ntmps13
    go_wp2_with (go_at_call 21; refine (bndP_any _ _ _ _ ms _ _ _ ls (ld : Int) HSM.out HS.out hlb HSL.out (by omega) (by omega)).mono ?_; rw [HBD.out]; rintro e w1 ⟨rfl, hb1⟩; have HB1 := Lib.hid hb1; clear hb1)
    go_ret
    exact ⟨ret_bool HE.out.symm, HB1.out⟩
  · have HBD := Lib.hid hbd
    cases hst : ds.all (fun x => inR x 0 100000)
    · have HA : Hid (ds.any noStamp = true) := Lib.hid (by rw [any_noStamp, hst]; rfl)
      have HE : Hid (v = false) := Lib.hid (by rw [HV.out]; unfold alwV; rw [hst]; rfl)
      clear hbd hst
      go_enter Try.func13, Try.ntmps13
      go_wp2_with (first
        | (go_at_call 21; refine (bndP_any _ _ _ _ ms _ _ _ ls (ld : Int) HSM.out HS.out hlb HSL.out (by omega) (by omega)).mono ?_; rw [HBD.out]; rintro e w1 ⟨rfl, hb1⟩; have HB1 := Lib.hid hb1; clear hb1)
        | (go_at_call 37; refine (hasI_any noStamp_says _ c ld cd ds hld (HSD.out.below HB1.out)).mono ?_; rw [HA.out]; rintro e w2 ⟨rfl, hb2⟩; have HB2 := Lib.hid (below_up HB1.out hb2 (Nat.le_refl _)); clear hb2))
      go_ret
      exact ⟨ret_bool HE.out.symm, HB2.out⟩
    · have HA : Hid (ds.any noStamp = false) := Lib.hid (by rw [any_noStamp, hst]; rfl)
      have HIN : Hid (∀ k, k < ds.length → inR (ds.getD k 0) 0 100000 = true) := Lib.hid (fun k hk => List.all_eq_true.1 hst _ (getD_mem hk))
      have hlbl : lb = len := by rw [← HLL.out, ← HL.out]; exact (bnd_true hbd).2.2.2
      have HRL : Hid (∀ i, i < len → (row ms i).length = ld) := Lib.hid (fun i hi => (bnd_row hbd (by rw [HL.out]; exact hi)).1)
      subst hlbl
      clear hbd hst
      go_enter Try.func13, Try.ntmps13
      go_wp2_with (first
        | (go_at_call 21; refine (bndP_any _ _ _ _ ms _ _ _ ls (ld : Int) HSM.out HS.out hlb HSL.out (by omega) (by omega)).mono ?_; rw [HBD.out]; rintro e w1 ⟨rfl, hb1⟩; have HB1 := Lib.hid hb1; clear hb1)
        | (go_at_call 37; refine (hasI_any noStamp_says _ c ld cd ds hld (HSD.out.below HB1.out)).mono ?_; rw [HA.out]; rintro e w2 ⟨rfl, hb2⟩; have HB2 := Lib.hid (below_up HB1.out hb2 (Nat.le_refl _)); clear hb2))
      go_loopw [21, 7, 8] (fun s21 _ _ wr => ∃ i : Nat, i ≤ lb ∧ s21 = .int .i64 i ∧ Hid (∀ r, r < i → (iv ls r).1 ≤ dotV (row ms r) ds ∧ dotV (row ms r) ds ≤ (iv ls r).2) ∧ Below W.heap.size W wr) (fun s21 _ _ _ => lb - (intOf s21).toNat)
      case atStart => exact ⟨0, Nat.zero_le _, rfl, Lib.hid (fun r hr => by omega), HB2.out⟩
      case round =>
        clear HB2
        obtain ⟨i, hi, rfl, HR, hb⟩ := hrel
        have HB := Lib.hid hb
        obtain ⟨V, rfl⟩ : ∃ V, V = wr := ⟨_, rfl⟩
        by_cases hil : i < lb
        · obtain ⟨b1, o1, ar, cr, rfl, hbl, hcr, _, _, hsr⟩ := HS.out.2 i hil
          obtain ⟨b2, o2, rfl, hb2, hy0, hy1⟩ := HSL.out.at hil
          have hrow := (hb.cell (p := ⟨b1, o1 + i, none⟩) hbl).trans hcr
          have hw0 := (hb.cell (p := ⟨b2, o2 + i * 2, none⟩) hb2).trans hy0
          have hw1 := (hb.cell (p := ⟨b2, o2 + i * 2 + 1, none⟩) hb2).trans hy1
          obtain ⟨y0, y1, hyy⟩ : ∃ y0 y1, iv ls i = (y0, y1) := ⟨_, _, rfl⟩
          rw [hyy] at hw0 hw1
          obtain ⟨z, hz⟩ : ∃ z, z = row ms i := ⟨_, rfl⟩
          have hzl : z.length = ld := by rw [hz]; exact HRL.out i hil
          rw [← hz] at hrow hsr
          obtain ⟨d, hd⟩ : ∃ d, d = dotV z ds := ⟨_, rfl⟩
          have HZ := Lib.hid hz
          have HD := Lib.hid hd
          have HYY := Lib.hid hyy
          have HSR := Lib.hid (hsr.below hb)
          have HZL := Lib.hid hzl
          have hb2v : b2 < V.heap.size := Nat.lt_of_lt_of_le hb2 hb.size
          have hvd : Below V.heap.size V V.drew := (Below.refl _ _).drew
          have HVD := Lib.hid hvd
          have HKEEP : Hid (∀ w' : World, Below V.heap.size V w' → w'.cell? ⟨b2, o2 + i * 2, none⟩ = some (.int .i64 y0) ∧ w'.cell? ⟨b2, o2 + i * 2 + 1, none⟩ = some (.int .i64 y1)) := Lib.hid (fun w' G => ⟨(G.cell (p := ⟨b2, o2 + i * 2, none⟩) hb2v).trans hw0, (G.cell (p := ⟨b2, o2 + i * 2 + 1, none⟩) hb2v).trans hw1⟩)
          have i0 : (0 : Int) ≤ (i : Int) := by omega
          have i1 : (i : Int) < (lb : Int) := by omega
          clear hz hd hyy hy0 hy1 hcr hsr hzl hb hvd
          cases hin : inR d y0 y1
          · have HI := Lib.hid hin
            have HE : Hid (v = false) := Lib.hid (HV.out.trans (alw_row (i := i) (by rw [HL.out]; exact hil) (by rw [HYY.out, ← HZ.out, ← HD.out]; exact fun h => by have := inR_true.2 h; rw [hin] at this; cases this)))
            clear hin
            go_wp2_with fail
            go_region_held3 (fun w' => w'.cell? ⟨b2, o2 + i * 2, none⟩ = some (.int .i64 y0) ∧ w'.cell? ⟨b2, o2 + i * 2 + 1, none⟩ = some (.int .i64 y1)) (first | exact HKEEP.out _ (by first | (with_reducible exact HVD.out) | (with_reducible exact G.out)) | (go_keep; done)) (first
              | (go_at_call 40; refine (dot_any _ _ _ _ _ _ _ z ds (by rw [HZL.out]; exact hld) hld (HSR.out.below HVD.out) ((HSD.out.below HB.out).below HVD.out)).mono ?_; rw [← HD.out]; rintro e w4 ⟨rfl, hb4⟩; have G := Lib.hid (below_up HVD.out hb4 (Nat.le_refl _)); obtain ⟨u0, u1⟩ := HKEEP.out _ G.out; clear hb4)
              | (go_at_call 39; refine (inRange_any _ _ _ _).mono ?_; rw [HI.out]; rintro e w' ⟨rfl, rfl⟩))
            all_goals go_wp2
            all_goals go_ret
            all_goals exact ⟨ret_bool HE.out.symm, below_up HB.out G.out (Nat.le_refl _)⟩
          · have HI := Lib.hid hin
            have HR2 : Hid (∀ r, r < i + 1 → (iv ls r).1 ≤ dotV (row ms r) ds ∧ dotV (row ms r) ds ≤ (iv ls r).2) := Lib.hid (fun r hr => by
              rcases Nat.lt_or_eq_of_le (Nat.lt_succ_iff.1 hr) with h | h
              · exact HR.out r h
              · subst h; rw [HYY.out, ← HZ.out, ← HD.out]; exact inR_true.1 hin)
            clear hin
            go_wp2_with fail
            go_region_held3 (fun w' => w'.cell? ⟨b2, o2 + i * 2, none⟩ = some (.int .i64 y0) ∧ w'.cell? ⟨b2, o2 + i * 2 + 1, none⟩ = some (.int .i64 y1)) (first | exact HKEEP.out _ (by first | (with_reducible exact HVD.out) | (with_reducible exact G.out)) | (go_keep; done)) (first
              | (go_at_call 40; refine (dot_any _ _ _ _ _ _ _ z ds (by rw [HZL.out]; exact hld) hld (HSR.out.below HVD.out) ((HSD.out.below HB.out).below HVD.out)).mono ?_; rw [← HD.out]; rintro e w4 ⟨rfl, hb4⟩; have G := Lib.hid (below_up HVD.out hb4 (Nat.le_refl _)); obtain ⟨u0, u1⟩ := HKEEP.out _ G.out; clear hb4)
              | (go_at_call 39; refine (inRange_any _ _ _ _).mono ?_; rw [HI.out]; rintro e w' ⟨rfl, rfl⟩))
            all_goals go_wp2
            all_goals go_roundw
            all_goals first
              | exact ⟨i + 1, by omega, by go_num, HR2, below_up HB.out G.out (Nat.le_refl _)⟩
              | (simp [intOf]; omega)
        · clear hb
          obtain rfl : i = lb := by omega
          have HE : Hid (v = true) := Lib.hid (by rw [HV.out]; exact alw_yes HIN.out (by rw [HLD.out]; exact HBD.out) (fun r hr => HR.out r (by rw [← HL.out]; exact hr)))
          go_wp2
          go_ret
          exact ⟨ret_bool HE.out.symm, HB.out⟩
end Go.Proofs.Ythcinjlghhfhmaa
