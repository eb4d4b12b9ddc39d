/- NarrowAll and AllowsDelays, the model's. -/
import Derived.Test.YthcinjlghhfhmaaBdO
namespace Go.Proofs.Ythcinjlghhfhmaa
open Go.RowKit
theorem iv_ext {xs ys : List (Int × Int)} (hl : xs.length = ys.length) (h : ∀ j, j < xs.length → iv xs j = iv ys j) : xs = ys := by
  refine List.ext_getElem hl (fun j h1 h2 => ?_)
  have := h j h1
  simpa [iv, List.getD, h1, h2] using this
set_option maxRecDepth 20000 in
set_option maxHeartbeats 3200000 in
theorem specSame_any (W : World) (a : Option Addr) (la ca : Nat) (xs : List (Int × Int)) (b : Option Addr) (lb cb : Nat) (ys : List (Int × Int)) (hla : la ≤ 1073741824) (hlb : lb ≤ 1073741824) (hx : SeesV W a la xs) (hy : SeesV W b lb ys) :
    Calls Try.prog 36 #[.slice a la ca, .slice b lb cb] W fun e w' => e = .returned (.bool (decide (xs = ys))) ∧ Below W.heap.size W w' := by
  have HX := Lib.hid hx
  have HY := Lib.hid hy
  have HLX := Lib.hid hx.1
  have HLY := Lib.hid hy.1
  obtain ⟨v, hv⟩ : ∃ v, v = decide (xs = ys) := ⟨_, rfl⟩
  rw [← hv]
  have HV := Lib.hid hv
  clear hv hx hy
  by_cases hll : la = lb
  · subst hll
    go_enter Try.func36, Try.ntmps36
    go_wp2
    go_loopw [5] (fun s wr => ∃ k : Nat, k ≤ la ∧ s = .int .i64 k ∧ Hid (∀ j, j < k → iv xs j = iv ys j) ∧ Below W.heap.size W wr) (fun s _ => la - (intOf s).toNat)
    case atStart => exact ⟨0, Nat.zero_le _, rfl, Lib.hid (fun j hj => by omega), Below.refl _ _⟩
    case round =>
      obtain ⟨k, hk, rfl, HC, hb⟩ := hrel
      have HB := Lib.hid hb
      by_cases hkl : k < la
      · obtain ⟨b1, o1, rfl, hb1, hc0, hc1⟩ := HX.out.at hkl
        obtain ⟨b2, o2, rfl, hb2, hd0, hd1⟩ := HY.out.at hkl
        have hu0 := (hb.cell (p := ⟨b1, o1 + k * 2, none⟩) hb1).trans hc0
        have hu1 := (hb.cell (p := ⟨b1, o1 + k * 2 + 1, none⟩) hb1).trans hc1
        have hv0 := (hb.cell (p := ⟨b2, o2 + k * 2, none⟩) hb2).trans hd0
        have hv1 := (hb.cell (p := ⟨b2, o2 + k * 2 + 1, none⟩) hb2).trans hd1
        obtain ⟨p, q, hpq⟩ : ∃ p q, iv xs k = (p, q) := ⟨_, _, rfl⟩
        obtain ⟨r, s, hrs⟩ : ∃ r s, iv ys k = (r, s) := ⟨_, _, rfl⟩
        rw [hpq] at hu0 hu1
        rw [hrs] at hv0 hv1
        have HPQ := Lib.hid hpq
        have HRS := Lib.hid hrs
        have i0 : (0 : Int) ≤ (k : Int) := by omega
        have i1 : (k : Int) < (la : Int) := by omega
        clear hc0 hc1 hd0 hd1 hb hpq hrs
        by_cases h0 : p = r
        · by_cases h1 : q = s
          · have HE : Hid (iv xs k = iv ys k) := Lib.hid (by rw [HPQ.out, HRS.out, h0, h1])
            subst h0 h1
            go_wp2_with fail
            go_quiet (fail)
            go_wp2
            go_roundw
            case rel => exact ⟨k + 1, by omega, by go_num, Lib.hid (fun j hj => by rcases Nat.lt_or_eq_of_le (Nat.lt_succ_iff.1 hj) with h | h; exact HC.out j h; subst h; exact HE.out), below_drewN HB.out _⟩
            case measure => simp [intOf]; omega
          · have HE : Hid (v = false) := Lib.hid (by rw [HV.out]; refine decide_eq_false (fun h => h1 ?_); have := HPQ.out; rw [h, HRS.out] at this; cases this; rfl)
            subst h0
            go_wp2_with fail
            go_quiet (fail)
            go_wp2
            go_ret
            exact ⟨ret_bool HE.out.symm, below_drewN HB.out _⟩
        · have HE : Hid (v = false) := Lib.hid (by rw [HV.out]; refine decide_eq_false (fun h => h0 ?_); have := HPQ.out; rw [h, HRS.out] at this; cases this; rfl)
          go_wp2_with fail
          go_quiet (fail)
          go_wp2
          go_ret
          exact ⟨ret_bool HE.out.symm, below_drewN HB.out _⟩
      · clear hb
        obtain rfl : k = la := by omega
        have HE : Hid (v = true) := Lib.hid (by rw [HV.out]; exact decide_eq_true (iv_ext (HLX.out.trans HLY.out.symm) (fun j hj => HC.out j (by rw [← HLX.out]; exact hj))))
        go_wp2
        go_ret
        exact ⟨ret_bool HE.out.symm, HB.out⟩
  · have HE : Hid (v = false) := Lib.hid (by rw [HV.out]; exact decide_eq_false (fun h => hll (by rw [← HLX.out, ← HLY.out, h])))
    have hl2 : ¬ (la : Int) = (lb : Int) := by omega
    go_enter Try.func36, Try.ntmps36
    go_wp2
    go_ret
    exact ⟨ret_bool HE.out.symm, Below.refl _ _⟩
def narL (ms : List (List Int)) (ls : List (Int × Int)) (n : Int) : List (Int × Int) := (narR ms ls n).getD []
def narB (ms : List (List Int)) (ls : List (Int × Int)) (n : Int) : Bool := (narR ms ls n).isSome
theorem nar_no {ms : List (List Int)} {ls : List (Int × Int)} {n : Int} (h : narR ms ls n = none) : narL ms ls n = [] ∧ narB ms ls n = false := by simp [narL, narB, h]
theorem nar_yes {ms : List (List Int)} {ls q : List (Int × Int)} {n : Int} (h : narR ms ls n = some q) : narL ms ls n = q ∧ narB ms ls n = true := by simp [narL, narB, h]
set_option maxRecDepth 20000 in
set_option maxHeartbeats 3200000 in
theorem specNarA_any (W : World) (a : Option Addr) (len cap : Nat) (ms : List (List Int)) (b : Option Addr) (lb cb : Nat) (ls : List (Int × Int)) (n : Int) (hsm : SmallM ms) (hs : SeesM W a len ms) (hlb : lb ≤ 1073741824) (hsl : SeesV W b lb ls)
    (hn : -9223372036854775808 ≤ n) (hm : n ≤ 9223372036854775807) :
    Calls Try.prog 12 #[.slice a len cap, .slice b lb cb, .int .i64 n] W (MadeVB (narL ms ls n) (narB ms ls n) W) := by
  have HS := Lib.hid hs
  have HSL := Lib.hid hsl
  have HSM := Lib.hid hsm
  obtain ⟨rl, hrl⟩ : ∃ r, r = narL ms ls n := ⟨_, rfl⟩
  obtain ⟨rb, hrb⟩ : ∃ r, r = narB ms ls n := ⟨_, rfl⟩
  have HNO : Hid (narR ms ls n = none → rl = [] ∧ rb = false) := Lib.hid (fun h => ⟨hrl.trans (nar_no h).1, hrb.trans (nar_no h).2⟩)
  have HYES : Hid (∀ q, narR ms ls n = some q → rl = q ∧ rb = true) := Lib.hid (fun q h => ⟨hrl.trans (nar_yes h).1, hrb.trans (nar_yes h).2⟩)
  rw [← hrl, ← hrb]
  clear hs hsm hsl hrl hrb
  cases hbd : bndV ms ls n
  · have HBD := Lib.hid hbd
    obtain ⟨rfl, rfl⟩ := HNO.out (by simp [narR, hbd])
    clear hbd
    go_enter Try.func12, Try.ntmps12
    go_wp2_with (go_at_call 18; refine (specBnd_any _ _ _ _ ms _ _ _ ls n HSM.out HS.out hlb HSL.out hn hm).mono ?_; rw [HBD.out]; rintro e w1 ⟨rfl, hb1⟩; have HB1 := Lib.hid hb1; clear hb1)
    go_ret2
    exact ⟨_, _, _, rfl, ownV_empty w1 _ HB1.out.size, HB1.out.alloc HB1.out.size _⟩
  · have HBD := Lib.hid hbd
    have HNR : Hid (narR ms ls n = itR ms ls (some (begV n)) 20) := Lib.hid (by simp [narR, hbd])
    clear hbd
    go_enter Try.func12, Try.ntmps12
    go_wp2_with (first
      | (go_at_call 18; refine (specBnd_any _ _ _ _ ms _ _ _ ls n HSM.out HS.out hlb HSL.out hn hm).mono ?_; rw [HBD.out]; rintro e w1 ⟨rfl, hb1⟩; have HB1 := Lib.hid hb1; clear hb1)
      | (go_at_call 24; refine (specBeg_any _ n).mono ?_; rintro e w2 ⟨a2, l2, c2, rfl, ho2, hb2⟩; have HO2 := Lib.hid (ho2.wide HB1.out.size (Nat.le_refl _) (Nat.le_refl _)); have HB2 := Lib.hid (below_up HB1.out hb2 (Nat.le_refl _)); clear ho2 hb2))
    go_loopw [8, 9, 10, 11] (fun s8 s9 _ _ wr => ∃ (r : Nat) (q : List (Int × Int)) (a' : Option Addr) (l' c' : Nat), r ≤ 20 ∧ s9 = .int .i64 r ∧ s8 = .slice a' l' c' ∧ Hid (itR ms ls (some (begV n)) r = some q) ∧ Hid (OwnV wr W.heap.size wr.heap.size a' l' c' q) ∧ Hid (Below W.heap.size W wr)) (fun _ s9 _ _ _ => 20 - (intOf s9).toNat)
    case atStart => exact ⟨0, _, _, _, _, Nat.zero_le _, rfl, rfl, Lib.hid rfl, HO2, HB2⟩
    case round =>
      clear HO2 HB2
      obtain ⟨r, q, a', l', c', hr, rfl, rfl, HQ, HO, HB⟩ := hrel
      have hql : l' ≤ 6 := by rw [← HO.out.1, (it_narrow (begV_ok n) _ _ HQ.out).1]; exact begV_small n
      by_cases hlt : r < 20
      · have HST : Hid (itR ms ls (some (begV n)) (r + 1) = onceR ms ls q) := Lib.hid (by simp only [itR, HQ.out]; rfl)
        cases hp : onceR ms ls q with
        | none =>
          have HP := Lib.hid (once_no hp)
          obtain ⟨rfl, rfl⟩ := HNO.out (by rw [HNR.out]; exact it_stop (k := r + 1) (by rw [HST.out]; exact hp) 20 hlt)
          clear hp
          go_wp2_with (go_at_call 28; refine (specOnce_any _ _ _ _ ms _ _ _ ls _ _ _ q HSM.out (HS.out.below HB.out) hlb (HSL.out.below HB.out) (by omega) HO.out.sees).mono ?_; rw [HP.out.1, HP.out.2]; rintro e w3 ⟨a3, l3, c3, rfl, ho3, hb3⟩; have HB3 := Lib.hid (below_up HB.out hb3 (Nat.le_refl _)); clear ho3 hb3)
          go_ret2
          exact ⟨_, _, _, rfl, ownV_empty w3 _ HB3.out.size, HB3.out.alloc HB3.out.size _⟩
        | some p =>
          have HP := Lib.hid (once_yes hp)
          have HPQ := Lib.hid hp
          have hpl := (once_narrow hp).1
          have hqll := HO.out.1
          have HPL : Hid (p.length = l') := Lib.hid (hpl.trans hqll)
          clear hp hpl hqll
          by_cases hqp : q = p
          · have hd : decide (q = p) = true := decide_eq_true hqp
            have HD := Lib.hid hd
            obtain ⟨rfl, rfl⟩ := HYES.out p (by rw [HNR.out]; exact it_fix (k := r + 1) (by rw [HST.out]; exact HPQ.out) (by rw [← hqp]; rw [hqp]; rw [← hqp] at HPQ ⊢; exact HPQ.out) 20 hlt)
            clear hd hqp
            go_wp2_with (first
              | (go_at_call 28; refine (specOnce_any _ _ _ _ ms _ _ _ ls _ _ _ q HSM.out (HS.out.below HB.out) hlb (HSL.out.below HB.out) (by omega) HO.out.sees).mono ?_; rw [HP.out.1, HP.out.2]; rintro e w3 ⟨a3, l3, c3, rfl, ho3, hb3⟩; have hl3 : l3 ≤ 6 := (by have h1 := HPL.out; have h2 := ho3.1; omega); have HO3 := Lib.hid (ho3.wide HB.out.size (Nat.le_refl _) (Nat.le_refl _)); have HB3 := Lib.hid (below_up HB.out hb3 (Nat.le_refl _)); have HOQ := Lib.hid (HO.out.sees.below hb3); clear ho3 hb3)
              | (go_at_call 36; refine (specSame_any _ _ _ _ q _ _ _ rl (by omega) (by omega) HOQ.out HO3.out.sees).mono ?_; rw [HD.out]; rintro e w4 ⟨rfl, hb4⟩; have HO4 := Lib.hid (HO3.out.below hb4); have HB4 := Lib.hid (below_up HB3.out hb4 (Nat.le_refl _)); clear hb4))
            go_ret2
            exact ⟨_, _, _, rfl, HO4.out.wide (Nat.le_refl _) HO4.out.2.2.1 (Nat.le_refl _), HB4.out⟩
          · have hd : decide (q = p) = false := decide_eq_false hqp
            have HD := Lib.hid hd
            have HE : Hid (itR ms ls (some (begV n)) (r + 1) = some p) := Lib.hid (by rw [HST.out]; exact HPQ.out)
            clear hd hqp
            go_wp2_with (first
              | (go_at_call 28; refine (specOnce_any _ _ _ _ ms _ _ _ ls _ _ _ q HSM.out (HS.out.below HB.out) hlb (HSL.out.below HB.out) (by omega) HO.out.sees).mono ?_; rw [HP.out.1, HP.out.2]; rintro e w3 ⟨a3, l3, c3, rfl, ho3, hb3⟩; have hl3 : l3 ≤ 6 := (by have h1 := HPL.out; have h2 := ho3.1; omega); have HO3 := Lib.hid (ho3.wide HB.out.size (Nat.le_refl _) (Nat.le_refl _)); have HB3 := Lib.hid (below_up HB.out hb3 (Nat.le_refl _)); have HOQ := Lib.hid (HO.out.sees.below hb3); clear ho3 hb3)
              | (go_at_call 36; refine (specSame_any _ _ _ _ q _ _ _ p (by omega) (by omega) HOQ.out HO3.out.sees).mono ?_; rw [HD.out]; rintro e w4 ⟨rfl, hb4⟩; have HO4 := Lib.hid (HO3.out.below hb4); have HB4 := Lib.hid (below_up HB3.out hb4 (Nat.le_refl _)); clear hb4))
            go_roundw
            case rel => exact ⟨r + 1, p, _, _, _, by omega, by go_num, rfl, HE, Lib.hid (HO4.out.wide (Nat.le_refl _) HO4.out.2.2.1 (Nat.le_refl _)), HB4⟩
            case measure => simp [intOf]; omega
      · obtain rfl : r = 20 := by omega
        obtain ⟨rfl, rfl⟩ := HYES.out q (by rw [HNR.out]; exact HQ.out)
        go_wp2
        go_ret2
        exact ⟨_, _, _, rfl, HO.out, HB.out⟩
theorem alw_out {ms : List (List Int)} {ls : List (Int × Int)} {ds : List Int} {k : Nat} (hk : k < ds.length) (h : inR (ds.getD k 0) 0 100000 = false) : alwV ms ls ds = false := by
  cases h1 : alwV ms ls ds
  · rfl
  · have h2 := inR_true.2 ((alw_true h1).1 k hk)
    rw [h] at h2
    cases h2
theorem alw_bnd {ms : List (List Int)} {ls : List (Int × Int)} {ds : List Int} (h : bndV ms ls ds.length = false) : alwV ms ls ds = false := by
  cases h1 : alwV ms ls ds
  · rfl
  · have h2 := (alw_true h1).2.1
    rw [h] at h2
    cases h2
theorem alw_row {ms : List (List Int)} {ls : List (Int × Int)} {ds : List Int} {i : Nat} (hi : i < ms.length) (h : ¬ ((iv ls i).1 ≤ dotV (row ms i) ds ∧ dotV (row ms i) ds ≤ (iv ls i).2)) : alwV ms ls ds = false := by
  cases h1 : alwV ms ls ds
  · rfl
  · exact absurd ((alw_true h1).2.2 i hi) h
theorem alw_yes {ms : List (List Int)} {ls : List (Int × Int)} {ds : List Int} (h1 : ∀ k, k < ds.length → inR (ds.getD k 0) 0 100000 = true) (h2 : bndV ms ls ds.length = true) (h3 : ∀ i, i < ms.length → (iv ls i).1 ≤ dotV (row ms i) ds ∧ dotV (row ms i) ds ≤ (iv ls i).2) : alwV ms ls ds = true := by
  unfold alwV
  rw [h2, Bool.true_and, Bool.and_eq_true, List.all_eq_true, List.all_eq_true]
  refine ⟨fun x hx => ?_, fun i hi => inR_true.2 (h3 i (List.mem_range.1 hi))⟩
  obtain ⟨k, hk, rfl⟩ := List.mem_iff_getElem.1 hx
  have := h1 k hk
  simpa [List.getD, hk] using this
set_option maxRecDepth 20000 in
set_option maxHeartbeats 3200000 in
theorem specAlw_any (W : World) (a : Option Addr) (len cap : Nat) (ms : List (List Int)) (b : Option Addr) (lb cb : Nat) (ls : List (Int × Int)) (c : Option Addr) (ld cd : Nat) (ds : List Int) (hsm : SmallM ms) (hs : SeesM W a len ms) (hlb : lb ≤ 1073741824) (hsl : SeesV W b lb ls)
    (hld : ld ≤ 1073741824) (hsd : Sees .i64 W c ld ds) :
    Calls Try.prog 30 #[.slice a len cap, .slice b lb cb, .slice c ld cd] W fun e w' => e = .returned (.bool (alwV ms ls ds)) ∧ Below W.heap.size W w' := by
  have HS := Lib.hid hs
  have HL := Lib.hid hs.1
  have HSL := Lib.hid hsl
  have HLL := Lib.hid hsl.1
  have HSD := Lib.hid hsd
  have HLD := Lib.hid hsd.1
  have HSM := Lib.hid hsm
  have hl : len ≤ 1048576 := by unfold SmallM at hsm; have := hs.1; omega
  obtain ⟨v, hv⟩ : ∃ v, v = alwV ms ls ds := ⟨_, rfl⟩
  rw [← hv]
  have HV := Lib.hid hv
  clear hs hsm hsl hsd hv
  go_enter Try.func30, Try.ntmps30
  go_wp2
  go_loopw [7] (fun s wr => ∃ k : Nat, k ≤ ld ∧ s = .int .i64 k ∧ Hid (∀ j, j < k → inR (ds.getD j 0) 0 100000 = true) ∧ Below W.heap.size W wr) (fun s _ => ld - (intOf s).toNat)
  case atStart => exact ⟨0, Nat.zero_le _, rfl, Lib.hid (fun j hj => by omega), Below.refl _ _⟩
  case round =>
    obtain ⟨k, hk, rfl, HC, hb⟩ := hrel
    have HB := Lib.hid hb
    by_cases hkl : k < ld
    · obtain ⟨b2, o2, rfl, hb2, hc2⟩ : ∃ b off, c = some ⟨b, off, none⟩ ∧ b < W.heap.size ∧ ∀ j, j < ld → W.cell? ⟨b, off + j, none⟩ = some (.int .i64 (ds.getD j 0)) := by
        rcases HSD.out.2.2 with h0 | h1
        · omega
        · exact h1
      have hcc := (hb.cell (p := ⟨b2, o2 + k, none⟩) hb2).trans (hc2 k hkl)
      obtain ⟨x, hx⟩ : ∃ x, x = ds.getD k 0 := ⟨_, rfl⟩
      rw [← hx] at hcc
      have HX := Lib.hid hx
      clear hc2 hb hx
      cases hin : inR x 0 100000
      · have HE := Lib.hid (HV.out.trans (alw_out (k := k) (by rw [HLD.out]; exact hkl) (by rw [← HX.out]; exact hin)))
        have HIN := Lib.hid hin
        clear hin
        go_wp2_with (go_at_call 42; refine (l1In_any _ _ _ _).mono ?_; rw [HIN.out]; rintro e w' ⟨rfl, rfl⟩)
        go_ret
        exact ⟨ret_bool HE.out.symm, HB.out⟩
      · have HIN := Lib.hid hin
        clear hin
        go_wp2_with (go_at_call 42; refine (l1In_any _ _ _ _).mono ?_; rw [HIN.out]; rintro e w' ⟨rfl, rfl⟩)
        go_roundw
        case rel => exact ⟨k + 1, by omega, by go_num, Lib.hid (fun j hj => by rcases Nat.lt_or_eq_of_le (Nat.lt_succ_iff.1 hj) with h | h; exact HC.out j h; subst h; rw [← HX.out]; exact HIN.out), HB.out⟩
        case measure => simp [intOf]; omega
    · clear hb
      obtain rfl : k = ld := by omega
      have HIN : Hid (∀ j, j < ds.length → inR (ds.getD j 0) 0 100000 = true) := Lib.hid (fun j hj => HC.out j (by rw [← HLD.out]; exact hj))
      clear HC
      cases hbd : bndV ms ls (k : Int)
      · have HBD := Lib.hid hbd
        have HE := Lib.hid (HV.out.trans (alw_bnd (by rw [HLD.out]; exact hbd)))
        clear hbd
        go_wp2_with (go_at_call 18; refine (specBnd_any _ _ _ _ ms _ _ _ ls (k : Int) HSM.out (HS.out.below HB.out) hlb (HSL.out.below HB.out) (by omega) (by omega)).mono ?_; rw [HBD.out]; rintro e w1 ⟨rfl, hb1⟩; have HB1 := Lib.hid (below_up HB.out hb1 (Nat.le_refl _)); clear hb1)
        go_ret
        exact ⟨ret_bool HE.out.symm, HB1.out⟩
      · have HBD := Lib.hid hbd
        have hll : lb = len := by rw [← HLL.out, ← HL.out]; exact (bnd_true hbd).2.2.2
        subst hll
        clear hbd
        go_wp2_with (go_at_call 18; refine (specBnd_any _ _ _ _ ms _ _ _ ls (k : Int) HSM.out (HS.out.below HB.out) hlb (HSL.out.below HB.out) (by omega) (by omega)).mono ?_; rw [HBD.out]; rintro e w1 ⟨rfl, hb1⟩; have HB1 := Lib.hid (below_up HB.out hb1 (Nat.le_refl _)); clear hb1)
        go_loopw [8, 9] (fun s _ wr => ∃ i : Nat, i ≤ lb ∧ s = .int .i64 i ∧ Hid (∀ r, r < i → (iv ls r).1 ≤ dotV (row ms r) ds ∧ dotV (row ms r) ds ≤ (iv ls r).2) ∧ Below W.heap.size W wr) (fun s _ _ => lb - (intOf s).toNat)
        case atStart => exact ⟨0, Nat.zero_le _, rfl, Lib.hid (fun j hj => by omega), HB1.out⟩
        case round =>
          clear HB HB1
          obtain ⟨i, hi', rfl, HR, hb⟩ := hrel
          have HB := Lib.hid hb
          by_cases hlt : i < lb
          · have him : i < ms.length := by rw [HL.out]; exact hlt
            obtain ⟨b1, o1, ar, cr, rfl, hbl, hc, _, _, hsr⟩ := HS.out.2 i hlt
            obtain ⟨b2, o2, rfl, hb2, hy0, hy1⟩ := HSL.out.at hlt
            have hcw := (hb.cell (p := ⟨b1, o1 + i, none⟩) hbl).trans hc
            obtain ⟨z, hzs⟩ : ∃ z, z = row ms i := ⟨_, rfl⟩
            obtain ⟨y0, y1, hyy⟩ : ∃ y0 y1, iv ls i = (y0, y1) := ⟨_, _, rfl⟩
            rw [hyy] at hy0 hy1
            rw [← hzs] at hcw hsr
            have hzl : z.length ≤ 1048576 := by have := HSM.out.row him; rw [hzs]; omega
            obtain ⟨d, hd⟩ : ∃ d, d = dotV z ds := ⟨_, rfl⟩
            have HD := Lib.hid hd
            have HSR := Lib.hid (hsr.below hb)
            have HY0 := Lib.hid ((hb.cell (p := ⟨b2, o2 + i * 2, none⟩) hb2).trans hy0)
            have HY1 := Lib.hid ((hb.cell (p := ⟨b2, o2 + i * 2 + 1, none⟩) hb2).trans hy1)
            have HROW : Hid ((y0 ≤ d ∧ d ≤ y1) → (iv ls i).1 ≤ dotV (row ms i) ds ∧ dotV (row ms i) ds ≤ (iv ls i).2) := Lib.hid (by rw [hyy, hd, ← hzs]; exact fun h => h)
            have HOUT : Hid (¬ (y0 ≤ d ∧ d ≤ y1) → v = false) := Lib.hid (fun h => HV.out.trans (alw_row him (by rw [hyy, ← hzs, ← hd]; exact h)))
            have hb2l : b2 < wr.heap.size := Nat.lt_of_lt_of_le hb2 hb.size
            clear hc hsr hy0 hy1 hzs hyy hd hb
            by_cases h0 : d < y0
            · have HE := Lib.hid (HOUT.out (by omega))
              go_wp2_with (go_at_call 55; refine (specDot_any _ _ _ _ _ _ _ z ds (by omega) (by omega) HSR.out (HSD.out.below HB.out)).mono ?_; rw [← HD.out]; rintro e w3 ⟨rfl, hb3⟩; have hw0 := (hb3.cell (p := ⟨b2, o2 + i * 2, none⟩) hb2l).trans HY0.out; have hw1 := (hb3.cell (p := ⟨b2, o2 + i * 2 + 1, none⟩) hb2l).trans HY1.out; have HB3 := Lib.hid (below_up HB.out hb3 (Nat.le_refl _)); clear hb3)
              go_ret
              exact ⟨ret_bool HE.out.symm, HB3.out⟩
            · by_cases h1 : y1 < d
              · have HE := Lib.hid (HOUT.out (by omega))
                go_wp2_with (go_at_call 55; refine (specDot_any _ _ _ _ _ _ _ z ds (by omega) (by omega) HSR.out (HSD.out.below HB.out)).mono ?_; rw [← HD.out]; rintro e w3 ⟨rfl, hb3⟩; have hw0 := (hb3.cell (p := ⟨b2, o2 + i * 2, none⟩) hb2l).trans HY0.out; have hw1 := (hb3.cell (p := ⟨b2, o2 + i * 2 + 1, none⟩) hb2l).trans HY1.out; have HB3 := Lib.hid (below_up HB.out hb3 (Nat.le_refl _)); clear hb3)
                go_ret
                exact ⟨ret_bool HE.out.symm, HB3.out⟩
              · have HOK := Lib.hid (HROW.out (by omega))
                go_wp2_with (go_at_call 55; refine (specDot_any _ _ _ _ _ _ _ z ds (by omega) (by omega) HSR.out (HSD.out.below HB.out)).mono ?_; rw [← HD.out]; rintro e w3 ⟨rfl, hb3⟩; have hw0 := (hb3.cell (p := ⟨b2, o2 + i * 2, none⟩) hb2l).trans HY0.out; have hw1 := (hb3.cell (p := ⟨b2, o2 + i * 2 + 1, none⟩) hb2l).trans HY1.out; have HB3 := Lib.hid (below_up HB.out hb3 (Nat.le_refl _)); clear hb3)
                go_roundw
                case rel => exact ⟨i + 1, by omega, by go_num, Lib.hid (fun j hj => by rcases Nat.lt_or_eq_of_le (Nat.lt_succ_iff.1 hj) with h | h; exact HR.out j h; subst h; exact HOK.out), HB3.out⟩
                case measure => simp [intOf]; omega
          · clear hb
            obtain rfl : i = lb := by omega
            have HE : Hid (v = true) := Lib.hid (by rw [HV.out]; exact alw_yes HIN.out (by rw [HLD.out]; exact HBD.out) (fun r hr => HR.out r (by rw [← HL.out]; exact hr)))
            go_wp2
            go_ret
            exact ⟨ret_bool HE.out.symm, HB.out⟩
theorem bnd_cols {ms : List (List Int)} {ls : List (Int × Int)} {n : Nat} (h : bndV ms ls n = true) : n ≤ 6 := by
  have := (isMat_true (bnd_true h).2.2.1).1
  omega
theorem onceL_le (ms : List (List Int)) (ls xs : List (Int × Int)) : (onceL ms ls xs).length ≤ 6 := by
  cases h : onceR ms ls xs with
  | none => rw [(once_no h).1]; simp
  | some q =>
    rw [(once_yes h).1, (once_narrow h).1]
    unfold onceR at h
    split at h
    · rename_i hc
      exact bnd_cols hc.1
    · cases h
theorem narL_le (ms : List (List Int)) (ls : List (Int × Int)) (n : Int) : (narL ms ls n).length ≤ 6 := by
  cases h : narR ms ls n with
  | none => rw [(nar_no h).1]; simp
  | some q =>
    rw [(nar_yes h).1, (nar_narrow h).1]
    exact begV_small n
end Go.Proofs.Ythcinjlghhfhmaa
