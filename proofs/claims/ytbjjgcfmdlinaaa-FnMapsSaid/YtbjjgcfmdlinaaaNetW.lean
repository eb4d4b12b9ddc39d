/- The program's search for a link; whether a network is valid. -/
import Derived.Test.YtbjjgcfmdlinaaaNetV
import Derived.Test.YtbjjgcfmdlinaaaPair
namespace Go.Proofs.Ytbjjgcfmdlinaaa
open Go.RowKit
theorem hasEnds_any (x y s t : Int) (W : World) : Calls Try.prog 48 #[.agg #[.int .i64 x, .int .i64 y], .agg #[.int .i64 s, .int .i64 t]] W fun e w' => e = .returned (.bool (joins x y (s, t))) ∧ Below W.heap.size W w' := by
  have fin : ∀ (w : World) (b : Bool), b = joins x y (s, t) → Below W.heap.size W w → (Ending.returned (.bool b) = .returned (.bool (joins x y (s, t))) ∧ Below W.heap.size W w) := fun w b h hb => ⟨ret_bool h, hb⟩
  by_cases h1 : x = s
  · subst h1
    by_cases h2 : y = t
    · subst h2
      have hj : true = joins x y (x, y) := by simp [joins]
      have HJ := Lib.hid hj
      clear hj
      go_enter Try.func48, Try.ntmps48
      go_wp2
      go_ret
      exact fin _ _ HJ.out (((Below.refl _ _).alloc (Nat.le_refl _) _).alloc (by simp) _)
    · by_cases h3 : x = t
      · subst h3
        have hj : false = joins x y (x, x) := by simp [joins, Ne.symm h2]
        have HJ := Lib.hid hj
        clear hj
        go_enter Try.func48, Try.ntmps48
        go_wp2
        go_ret
        exact fin _ _ HJ.out (((Below.refl _ _).alloc (Nat.le_refl _) _).alloc (by simp) _)
      · have hj : false = joins x y (x, t) := by simp [joins, Ne.symm h2, Ne.symm h3]
        have HJ := Lib.hid hj
        clear hj
        go_enter Try.func48, Try.ntmps48
        go_wp2
        go_ret
        exact fin _ _ HJ.out (((Below.refl _ _).alloc (Nat.le_refl _) _).alloc (by simp) _)
  · by_cases h3 : x = t
    · subst h3
      by_cases h4 : y = s
      · subst h4
        have hj : true = joins x y (y, x) := by simp [joins]
        have HJ := Lib.hid hj
        clear hj
        go_enter Try.func48, Try.ntmps48
        go_wp2
        go_ret
        exact fin _ _ HJ.out (((Below.refl _ _).alloc (Nat.le_refl _) _).alloc (by simp) _)
      · have hj : false = joins x y (s, x) := by simp [joins, Ne.symm h1, Ne.symm h4]
        have HJ := Lib.hid hj
        clear hj
        go_enter Try.func48, Try.ntmps48
        go_wp2
        go_ret
        exact fin _ _ HJ.out (((Below.refl _ _).alloc (Nat.le_refl _) _).alloc (by simp) _)
    · have hj : false = joins x y (s, t) := by simp [joins, Ne.symm h1, Ne.symm h3]
      have HJ := Lib.hid hj
      clear hj
      go_enter Try.func48, Try.ntmps48
      go_wp2
      go_ret
      exact fin _ _ HJ.out (((Below.refl _ _).alloc (Nat.le_refl _) _).alloc (by simp) _)
set_option maxRecDepth 20000 in
set_option maxHeartbeats 1600000 in
theorem idxLink_any (W : World) (a : Option Addr) (len cap : Nat) (ls : List (Int × Int)) (x y : Int) (hl : len ≤ 1073741824) (hs : SeesL W a len ls) :
    Calls Try.prog 47 #[.slice a len cap, .func (.func 48) #[.agg #[.int .i64 x, .int .i64 y]] #[]] W fun e w' => e = .returned (.int .i64 (lk ls x y)) ∧ Below W.heap.size W w' := by
  have HS := Lib.hid hs
  have HL := Lib.hid hs.1
  clear hs
  obtain ⟨v, hv⟩ : ∃ v : Int, v = lk ls x y := ⟨_, rfl⟩
  rw [← hv]
  have HV := Lib.hid hv
  clear hv
  go_enter Try.func47, Try.ntmps47
  go_wp2
  go_loopw [8, 5] (fun i _ wr => ∃ k : Nat, k ≤ len ∧ i = .int .i64 k ∧ Hid (∀ j, j < k → joins x y (ls.getD j (0, 0)) = false) ∧ Below W.heap.size W wr) (fun i _ _ => len - (intOf i).toNat)
  case atStart => exact ⟨0, Nat.zero_le _, rfl, Lib.hid (fun j hj => by omega), Below.refl _ _⟩
  case round =>
    obtain ⟨k, hk, rfl, HA, hb⟩ := hrel
    have HB := Lib.hid hb
    by_cases hlt : k < len
    · obtain ⟨b2, o2, rfl, hb2, hx0, hx1, hi0, hi1⟩ := (HS.out.below HB.out).spot hlt
      obtain ⟨s, t, hcd⟩ : ∃ s t, ls.getD k (0, 0) = (s, t) := ⟨_, _, rfl⟩
      rw [hcd] at hx0 hx1
      have HCD := Lib.hid hcd
      clear hcd hb hi0 hi1
      cases hin : joins x y (s, t)
      · have HIN := Lib.hid hin
        clear hin
        go_wp2_with (go_at_call 48; refine (hasEnds_any x y s t _).mono ?_; rw [HIN.out]; rintro e w2 ⟨rfl, hb2'⟩; have HB2 := Lib.hid (below_up HB.out hb2' (Nat.le_refl _)); clear hb2')
        go_roundw
        case rel => exact ⟨k + 1, by omega, by go_num, Lib.hid (next_all HA.out (by rw [HCD.out]; exact HIN.out)), HB2.out⟩
        case measure => simp [intOf]; omega
      · have HE : Hid (v = k) := Lib.hid (by rw [HV.out]; exact lk_at (by rw [HL.out]; exact hlt) HA.out (by rw [HCD.out]; exact hin))
        have HIN := Lib.hid hin
        clear hin
        go_wp2_with (go_at_call 48; refine (hasEnds_any x y s t _).mono ?_; rw [HIN.out]; rintro e w2 ⟨rfl, hb2'⟩; have HB2 := Lib.hid (below_up HB.out hb2' (Nat.le_refl _)); clear hb2')
        go_ret
        exact ⟨ret_int HE.out.symm, HB2.out⟩
    · obtain rfl : k = len := by omega
      have HE : Hid (v = -1) := Lib.hid (by rw [HV.out]; exact lk_none (fun j hj => HA.out j (by rw [HL.out] at hj; exact hj)))
      clear hb
      go_wp2
      go_ret
      exact ⟨ret_int HE.out.symm, HB.out⟩
theorem lkP_any (W : World) (n : Int) (a : Option Addr) (len cap : Nat) (ls : List (Int × Int)) (x y : Int) (hl : len ≤ 1073741824) (hs : SeesL W a len ls) :
    Calls Try.prog 16 #[.agg #[.int .i64 n, .slice a len cap], .int .i64 x, .int .i64 y] W fun e w' => e = .returned (.int .i64 (lk ls x y)) ∧ Below W.heap.size W w' := by
  have HS := Lib.hid (hs.below (below_new W (.cells #[.int .i64 n, .slice a len cap] 26)))
  clear hs
  go_enter Try.func16, Try.ntmps16
  go_wp2_with (go_at_call 47; refine (idxLink_any _ a len cap ls x y hl HS.out).mono ?_; rintro e w2 ⟨rfl, hb2⟩; have HB2 := Lib.hid (below_up (below_new W _) hb2 (Nat.le_refl _)); clear hb2)
  go_ret
  exact ⟨rfl, HB2.out⟩
/-! Whether a network is valid. -/
def netOkAt (n : Int) (ls : List (Int × Int)) (k : Nat) : Bool := inR (ls.getD k (0, 0)).1 0 (n - 1) && (inR (ls.getD k (0, 0)).2 0 (n - 1) && (decide ((ls.getD k (0, 0)).1 ≠ (ls.getD k (0, 0)).2) && decide (lk ls (ls.getD k (0, 0)).1 (ls.getD k (0, 0)).2 = (k : Int))))
def netB (n : Int) (ls : List (Int × Int)) : Bool := inR n 1 8 && (inR (ls.length : Int) 1 6 && (List.range ls.length).all (netOkAt n ls))
theorem netB_no {n : Int} {ls : List (Int × Int)} {k : Nat} (hk : k < ls.length) (h : netOkAt n ls k = false) : netB n ls = false := by
  have : (List.range ls.length).all (netOkAt n ls) = false := by
    rw [List.all_eq_false]
    exact ⟨k, List.mem_range.2 hk, by rw [h]; decide⟩
  unfold netB
  rw [this]
  simp
theorem netB_yes {n : Int} {ls : List (Int × Int)} (h1 : inR n 1 8 = true) (h2 : inR (ls.length : Int) 1 6 = true) (h : ∀ k, k < ls.length → netOkAt n ls k = true) : netB n ls = true := by
  unfold netB
  rw [h1, h2, List.all_eq_true.2 (fun k hk => h k (List.mem_range.1 hk))]
  rfl
theorem netB_nodes {n : Int} {ls : List (Int × Int)} (h : inR n 1 8 = false) : netB n ls = false := by unfold netB; rw [h]; rfl
theorem netB_links {n : Int} {ls : List (Int × Int)} (h : inR (ls.length : Int) 1 6 = false) : netB n ls = false := by unfold netB; rw [h]; simp
theorem joins_self (x y : Int) : joins x y (x, y) = true := by simp [joins]
/-- Of two links that join the same nodes the first is found. -/
theorem lk_le {ls : List (Int × Int)} {k : Nat} (hk : k < ls.length) : 0 ≤ lk ls (ls.getD k (0, 0)).1 (ls.getD k (0, 0)).2 ∧ lk ls (ls.getD k (0, 0)).1 (ls.getD k (0, 0)).2 ≤ (k : Int) := by
  rcases lk_cases ls (ls.getD k (0, 0)).1 (ls.getD k (0, 0)).2 with ⟨_, h⟩ | ⟨j, h1, _, _, h4⟩
  · have := h k hk
    rw [joins_self] at this
    cases this
  · rw [h1]
    refine ⟨by omega, ?_⟩
    by_cases hj : j ≤ k
    · omega
    · have := h4 k (by omega)
      rw [joins_self] at this
      cases this
theorem isNode_any (W : World) (n : Int) (a : Option Addr) (len cap : Nat) (m : Int) (h1 : 1 ≤ n) (h8 : n ≤ 8) :
    Calls Try.prog 46 #[.agg #[.int .i64 n, .slice a len cap], .int .i64 m] W fun e w' => e = .returned (.bool (inR m 0 (n - 1))) ∧ Below W.heap.size W w' := by
  go_enter Try.func46, Try.ntmps46
  go_wp2_with (go_at_call 45; refine (inRange_any m 0 (n - 1) _).mono ?_; rintro e w2 ⟨rfl, rfl⟩)
  go_ret
  exact ⟨rfl, below_new _ _⟩
set_option maxRecDepth 20000 in
set_option maxHeartbeats 3200000 in
theorem specNet_any (W : World) (n : Int) (a : Option Addr) (len cap : Nat) (ls : List (Int × Int)) (hl : len ≤ 1073741824) (hs : SeesL W a len ls) :
    Calls Try.prog 59 #[.agg #[.int .i64 n, .slice a len cap]] W fun e w' => e = .returned (.bool (netB n ls)) ∧ Below W.heap.size W w' := by
  have HL := Lib.hid hs.1
  obtain ⟨V, hV⟩ : ∃ V, V = W.alloc (.cells #[.int .i64 n, .slice a len cap] 26) := ⟨_, rfl⟩
  have HBV : Hid (Below W.heap.size W V) := Lib.hid (by rw [hV]; exact below_new _ _)
  have HN := Lib.hid (show NetAt V W.heap.size n a len cap by rw [hV]; exact net_new _ _ _ _ _ _)
  have HS := Lib.hid (hs.below HBV.out)
  clear hs
  obtain ⟨v, hv⟩ : ∃ v : Bool, v = netB n ls := ⟨_, rfl⟩
  rw [← hv]
  have HV := Lib.hid hv
  clear hv
  have c0 := HN.out.c0
  have c1 := HN.out.c1
  cases hn : inR n 1 8
  · have HE : Hid (v = false) := Lib.hid (by rw [HV.out]; exact netB_nodes hn)
    have HNN := Lib.hid hn
    clear hn
    go_enter Try.func59, Try.ntmps59
    go_wp2_with fail
    rw [← hV]
    clear hV
    go_wp2_with (go_at_call 41; refine (l1In_any _ _ _ _).mono ?_; rw [HNN.out]; rintro e w' ⟨rfl, rfl⟩)
    go_ret
    exact ⟨ret_bool HE.out.symm, HBV.out⟩
  cases hln : inR (len : Int) 1 6
  · have HE : Hid (v = false) := Lib.hid (by rw [HV.out]; exact netB_links (by rw [HL.out]; exact hln))
    have HNN := Lib.hid hn
    have HLN := Lib.hid hln
    clear hn hln
    go_enter Try.func59, Try.ntmps59
    go_wp2_with fail
    rw [← hV]
    clear hV
    go_wp2_with (first
      | (go_at_call 41; refine (l1In_any _ _ _ _).mono ?_; (first | rw [HNN.out] | rw [HLN.out]); rintro e w' ⟨rfl, rfl⟩))
    go_ret
    exact ⟨ret_bool HE.out.symm, HBV.out⟩
  have hnb := inR_true.1 hn
  obtain ⟨hn1, hn8⟩ := hnb
  have HNN := Lib.hid hn
  have HLN := Lib.hid hln
  clear hn hln
  go_enter Try.func59, Try.ntmps59
  go_wp2_with fail
  rw [← hV]
  clear hV
  go_wp2_with (first
    | (go_at_call 41; refine (l1In_any _ _ _ _).mono ?_; (first | rw [HNN.out] | rw [HLN.out]); rintro e w' ⟨rfl, rfl⟩))
  go_loopw [3, 4, 5] (fun i _ _ wr => ∃ k : Nat, k ≤ len ∧ i = .int .i64 k ∧ Hid (∀ j, j < k → netOkAt n ls j = true) ∧ Below V.heap.size V wr) (fun i _ _ _ => len - (intOf i).toNat)
  case atStart => exact ⟨0, Nat.zero_le _, rfl, Lib.hid (fun j hj => by omega), Below.refl _ _⟩
  case round =>
    clear c0 c1
    obtain ⟨k, hk, rfl, HA, hb⟩ := hrel
    have HB := Lib.hid hb
    have HNW := Lib.hid (HN.out.below hb)
    have HSW := Lib.hid (HS.out.below hb)
    have c0 := HNW.out.c0
    have c1 := HNW.out.c1
    clear hb
    by_cases hlt : k < len
    · obtain ⟨b2, o2, rfl, hb2, hx0, hx1, _, _⟩ := HSW.out.spot hlt
      have hkl : k < ls.length := by rw [HL.out]; exact hlt
      have HLE := Lib.hid (lk_le hkl)
      have HOK : Hid (netOkAt n ls k = netOkAt n ls k) := Lib.hid rfl
      obtain ⟨s, t, hcd⟩ : ∃ s t, ls.getD k (0, 0) = (s, t) := ⟨_, _, rfl⟩
      have hok : netOkAt n ls k = (inR s 0 (n - 1) && (inR t 0 (n - 1) && (decide (s ≠ t) && decide (lk ls s t = (k : Int))))) := by unfold netOkAt; rw [hcd]
      rw [hcd] at hx0 hx1
      have HLE : Hid (0 ≤ lk ls s t ∧ lk ls s t ≤ (k : Int)) := Lib.hid (by have h := HLE.out; rw [hcd] at h; exact h)
      have hno : netOkAt n ls k = false → v = false := fun h => by rw [HV.out]; exact netB_no hkl h
      rw [hok] at hno
      have HNO := Lib.hid hno
      have HYES := Lib.hid hok
      clear hcd hok hno HOK
      cases h1 : inR s 0 (n - 1)
      · have HE : Hid (v = false) := Lib.hid (HNO.out (by rw [h1]; rfl))
        have H1 := Lib.hid h1
        clear h1
        go_wp2_with (first | (go_at_call 41; refine (l1In_any _ _ _ _).mono ?_; rw [H1.out]; rintro e w2 ⟨rfl, rfl⟩))
        go_ret
        exact ⟨ret_bool HE.out.symm, HBV.out.trans (HB.out.mono HBV.out.size)⟩
      cases h2 : inR t 0 (n - 1)
      · have HE : Hid (v = false) := Lib.hid (HNO.out (by rw [h2]; simp))
        have H1 := Lib.hid h1
        have H2 := Lib.hid h2
        clear h1 h2
        go_wp2_with (first | (go_at_call 41; refine (l1In_any _ _ _ _).mono ?_; (first | rw [H1.out] | rw [H2.out]); rintro e w2 ⟨rfl, rfl⟩))
        go_ret
        exact ⟨ret_bool HE.out.symm, HBV.out.trans (HB.out.mono HBV.out.size)⟩
      by_cases h3 : s = t
      · subst h3
        have HE : Hid (v = false) := Lib.hid (HNO.out (by simp))
        have H1 := Lib.hid h1
        have H2 := Lib.hid h2
        clear h1 h2
        go_wp2_with (first | (go_at_call 41; refine (l1In_any _ _ _ _).mono ?_; (first | rw [H1.out] | rw [H2.out]); rintro e w2 ⟨rfl, rfl⟩))
        go_ret
        exact ⟨ret_bool HE.out.symm, HBV.out.trans (HB.out.mono HBV.out.size)⟩
      obtain ⟨q, hq⟩ : ∃ q, lk ls s t = q := ⟨_, rfl⟩
      have HLV := Lib.hid hq
      rw [hq] at HLE
      obtain ⟨hq0, hqk⟩ := HLE.out
      by_cases h4 : q = (k : Int)
      · have HOKK : Hid (netOkAt n ls k = true) := Lib.hid (by rw [HYES.out, h1, h2, hq, h4]; simp [h3])
        subst h4
        have H1 := Lib.hid h1
        have H2 := Lib.hid h2
        clear h1 h2 hq hq0 hqk HLE
        go_wp2_with (first | (go_at_call 41; refine (l1In_any _ _ _ _).mono ?_; (first | rw [H1.out] | rw [H2.out]); rintro e w2 ⟨rfl, rfl⟩) | (go_at_call 60; refine (specLk_any _ n _ len cap ls s t hl HSW.out).mono ?_; rw [HLV.out]; rintro e w4 ⟨rfl, hb4⟩; have HB4 := Lib.hid (below_up HB.out hb4 (Nat.le_refl _)); clear hb4))
        go_roundw
        case rel => exact ⟨k + 1, by omega, by go_num, Lib.hid (next_all HA.out HOKK.out), HB4.out⟩
        case measure => simp [intOf]; omega
      · have HE : Hid (v = false) := Lib.hid (HNO.out (by rw [hq]; simp [h4]))
        have h5 : q < (k : Int) := by omega
        have H1 := Lib.hid h1
        have H2 := Lib.hid h2
        clear h1 h2 hq hq0 HLE h4
        go_wp2_with (first | (go_at_call 41; refine (l1In_any _ _ _ _).mono ?_; (first | rw [H1.out] | rw [H2.out]); rintro e w2 ⟨rfl, rfl⟩) | (go_at_call 60; refine (specLk_any _ n _ len cap ls s t hl HSW.out).mono ?_; rw [HLV.out]; rintro e w4 ⟨rfl, hb4⟩; have HB4 := Lib.hid (below_up HB.out hb4 (Nat.le_refl _)); clear hb4))
        go_ret
        exact ⟨ret_bool HE.out.symm, HBV.out.trans (HB4.out.mono HBV.out.size)⟩
    · obtain rfl : k = len := by omega
      have HE : Hid (v = true) := Lib.hid (by rw [HV.out]; exact netB_yes HNN.out (by rw [HL.out]; exact HLN.out) (fun j hj => HA.out j (by rw [HL.out] at hj; exact hj)))
      go_wp2
      go_ret
      exact ⟨ret_bool HE.out.symm, HBV.out.trans (HB.out.mono HBV.out.size)⟩
set_option maxRecDepth 20000 in
set_option maxHeartbeats 3200000 in
theorem netP_any (W : World) (n : Int) (a : Option Addr) (len cap : Nat) (ls : List (Int × Int)) (hl : len ≤ 1073741824) (hs : SeesL W a len ls) :
    Calls Try.prog 15 #[.agg #[.int .i64 n, .slice a len cap]] W fun e w' => e = .returned (.bool (netB n ls)) ∧ Below W.heap.size W w' := by
  have HL := Lib.hid hs.1
  obtain ⟨V, hV⟩ : ∃ V, V = W.alloc (.cells #[.int .i64 n, .slice a len cap] 26) := ⟨_, rfl⟩
  have HBV : Hid (Below W.heap.size W V) := Lib.hid (by rw [hV]; exact below_new _ _)
  have HN := Lib.hid (show NetAt V W.heap.size n a len cap by rw [hV]; exact net_new _ _ _ _ _ _)
  have HS := Lib.hid (hs.below HBV.out)
  clear hs
  obtain ⟨v, hv⟩ : ∃ v : Bool, v = netB n ls := ⟨_, rfl⟩
  rw [← hv]
  have HV := Lib.hid hv
  clear hv
  have c0 := HN.out.c0
  have c1 := HN.out.c1
  cases hn : inR n 1 8
  · have HE : Hid (v = false) := Lib.hid (by rw [HV.out]; exact netB_nodes hn)
    have HNN := Lib.hid hn
    clear hn
    go_enter Try.func15, Try.ntmps15
    go_wp2_with fail
    rw [← hV]
    clear hV
    go_wp2_with (go_at_call 45; refine (inRange_any _ _ _ _).mono ?_; rw [HNN.out]; rintro e w' ⟨rfl, rfl⟩)
    go_ret
    exact ⟨ret_bool HE.out.symm, HBV.out⟩
  cases hln : inR (len : Int) 1 6
  · have HE : Hid (v = false) := Lib.hid (by rw [HV.out]; exact netB_links (by rw [HL.out]; exact hln))
    have HNN := Lib.hid hn
    have HLN := Lib.hid hln
    clear hn hln
    go_enter Try.func15, Try.ntmps15
    go_wp2_with fail
    rw [← hV]
    clear hV
    go_wp2_with (first
      | (go_at_call 45; refine (inRange_any _ _ _ _).mono ?_; (first | rw [HNN.out] | rw [HLN.out]); rintro e w' ⟨rfl, rfl⟩))
    go_ret
    exact ⟨ret_bool HE.out.symm, HBV.out⟩
  have hnb := inR_true.1 hn
  obtain ⟨hn1, hn8⟩ := hnb
  have HNN := Lib.hid hn
  have HLN := Lib.hid hln
  clear hn hln
  go_enter Try.func15, Try.ntmps15
  go_wp2_with fail
  rw [← hV]
  clear hV
  go_wp2_with (first
    | (go_at_call 45; refine (inRange_any _ _ _ _).mono ?_; (first | rw [HNN.out] | rw [HLN.out]); rintro e w' ⟨rfl, rfl⟩))
  go_loopw [19, 3, 4] (fun i _ _ wr => ∃ k : Nat, k ≤ len ∧ i = .int .i64 k ∧ Hid (∀ j, j < k → netOkAt n ls j = true) ∧ Below V.heap.size V wr) (fun i _ _ _ => len - (intOf i).toNat)
  case atStart => exact ⟨0, Nat.zero_le _, rfl, Lib.hid (fun j hj => by omega), Below.refl _ _⟩
  case round =>
    clear c0 c1
    obtain ⟨k, hk, rfl, HA, hb⟩ := hrel
    have HB := Lib.hid hb
    have HNW := Lib.hid (HN.out.below hb)
    have HSW := Lib.hid (HS.out.below hb)
    have c0 := HNW.out.c0
    have c1 := HNW.out.c1
    clear hb
    by_cases hlt : k < len
    · obtain ⟨b2, o2, rfl, hb2, hx0, hx1, _, _⟩ := HSW.out.spot hlt
      have hkl : k < ls.length := by rw [HL.out]; exact hlt
      have HLE := Lib.hid (lk_le hkl)
      have HOK : Hid (netOkAt n ls k = netOkAt n ls k) := Lib.hid rfl
      obtain ⟨s, t, hcd⟩ : ∃ s t, ls.getD k (0, 0) = (s, t) := ⟨_, _, rfl⟩
      have hok : netOkAt n ls k = (inR s 0 (n - 1) && (inR t 0 (n - 1) && (decide (s ≠ t) && decide (lk ls s t = (k : Int))))) := by unfold netOkAt; rw [hcd]
      rw [hcd] at hx0 hx1
      have HLE : Hid (0 ≤ lk ls s t ∧ lk ls s t ≤ (k : Int)) := Lib.hid (by have h := HLE.out; rw [hcd] at h; exact h)
      have hno : netOkAt n ls k = false → v = false := fun h => by rw [HV.out]; exact netB_no hkl h
      rw [hok] at hno
      have HNO := Lib.hid hno
      have HYES := Lib.hid hok
      clear hcd hok hno HOK
      obtain ⟨U, hU⟩ : ∃ U, U = wr.alloc (.cells #[.int .i64 s, .int .i64 t] 38) := ⟨_, rfl⟩
      have hbU : Below wr.heap.size wr U := by rw [hU]; exact below_new _ _
      have HBU := Lib.hid (below_up HB.out hbU (Nat.le_refl _))
      have HNU := Lib.hid (HNW.out.below hbU)
      have HSU := Lib.hid (HSW.out.below hbU)
      have HPU := Lib.hid (show PairAt U wr.heap.size s t by rw [hU]; exact pair_new _ _ _ _)
      clear hbU c0 c1
      have c0 := (HNW.out.below (below_new wr (.cells #[.int .i64 s, .int .i64 t] 38))).c0
      have c1 := (HNW.out.below (below_new wr (.cells #[.int .i64 s, .int .i64 t] 38))).c1
      cases h1 : inR s 0 (n - 1)
      · have HE : Hid (v = false) := Lib.hid (HNO.out (by rw [h1]; rfl))
        have H1 := Lib.hid h1
        clear h1
        go_wp2_with fail
        rw [← hU]
        clear hU
        clear c0 c1
        have c0 := HNU.out.c0
        have c1 := HNU.out.c1
        have y0 := HPU.out.c0
        have y1 := HPU.out.c1
        go_wp2_with (first | (go_at_call 46; refine (isNode_any _ n _ len cap _ hn1 hn8).mono ?_; (rw [H1.out]; rintro e w2 ⟨rfl, hb2⟩; have HN2 := Lib.hid (HNU.out.below hb2); have HS2 := Lib.hid (HSU.out.below hb2); have HP2 := Lib.hid (HPU.out.below hb2); have HB2 := Lib.hid (below_up HBU.out hb2 (Nat.le_refl _)); have c0 := HN2.out.c0; have c1 := HN2.out.c1; have y0 := HP2.out.c0; have y1 := HP2.out.c1; clear hb2)))
        go_ret
        exact ⟨ret_bool HE.out.symm, HBV.out.trans (HB2.out.mono HBV.out.size)⟩
      cases h2 : inR t 0 (n - 1)
      · have HE : Hid (v = false) := Lib.hid (HNO.out (by rw [h2]; simp))
        have H1 := Lib.hid h1
        have H2 := Lib.hid h2
        clear h1 h2
        go_wp2_with fail
        rw [← hU]
        clear hU
        clear c0 c1
        have c0 := HNU.out.c0
        have c1 := HNU.out.c1
        have y0 := HPU.out.c0
        have y1 := HPU.out.c1
        go_wp2_with (first | (go_at_call 46; refine (isNode_any _ n _ len cap _ hn1 hn8).mono ?_; first | (rw [H1.out]; rintro e w2 ⟨rfl, hb2⟩; have HN2 := Lib.hid (HNU.out.below hb2); have HS2 := Lib.hid (HSU.out.below hb2); have HP2 := Lib.hid (HPU.out.below hb2); have HB2 := Lib.hid (below_up HBU.out hb2 (Nat.le_refl _)); have c0 := HN2.out.c0; have c1 := HN2.out.c1; have y0 := HP2.out.c0; have y1 := HP2.out.c1; clear hb2) | (rw [H2.out]; rintro e w3 ⟨rfl, hb3⟩; have HN3 := Lib.hid (HN2.out.below hb3); have HS3 := Lib.hid (HS2.out.below hb3); have HP3 := Lib.hid (HP2.out.below hb3); have HB3 := Lib.hid (below_up HB2.out hb3 (Nat.le_refl _)); have c0 := HN3.out.c0; have c1 := HN3.out.c1; have y0 := HP3.out.c0; have y1 := HP3.out.c1; clear hb3)))
        go_ret
        exact ⟨ret_bool HE.out.symm, HBV.out.trans (HB3.out.mono HBV.out.size)⟩
      by_cases h3 : s = t
      · subst h3
        have HE : Hid (v = false) := Lib.hid (HNO.out (by simp))
        have H1 := Lib.hid h1
        have H2 := Lib.hid h2
        clear h1 h2
        go_wp2_with fail
        rw [← hU]
        clear hU
        clear c0 c1
        have c0 := HNU.out.c0
        have c1 := HNU.out.c1
        have y0 := HPU.out.c0
        have y1 := HPU.out.c1
        go_wp2_with (first | (go_at_call 46; refine (isNode_any _ n _ len cap _ hn1 hn8).mono ?_; first | (rw [H1.out]; rintro e w2 ⟨rfl, hb2⟩; have HN2 := Lib.hid (HNU.out.below hb2); have HS2 := Lib.hid (HSU.out.below hb2); have HP2 := Lib.hid (HPU.out.below hb2); have HB2 := Lib.hid (below_up HBU.out hb2 (Nat.le_refl _)); have c0 := HN2.out.c0; have c1 := HN2.out.c1; have y0 := HP2.out.c0; have y1 := HP2.out.c1; clear hb2) | (rw [H2.out]; rintro e w3 ⟨rfl, hb3⟩; have HN3 := Lib.hid (HN2.out.below hb3); have HS3 := Lib.hid (HS2.out.below hb3); have HP3 := Lib.hid (HP2.out.below hb3); have HB3 := Lib.hid (below_up HB2.out hb3 (Nat.le_refl _)); have c0 := HN3.out.c0; have c1 := HN3.out.c1; have y0 := HP3.out.c0; have y1 := HP3.out.c1; clear hb3)))
        go_ret
        exact ⟨ret_bool HE.out.symm, HBV.out.trans (HB3.out.mono HBV.out.size)⟩
      obtain ⟨q, hq⟩ : ∃ q, lk ls s t = q := ⟨_, rfl⟩
      have HLV := Lib.hid hq
      rw [hq] at HLE
      obtain ⟨hq0, hqk⟩ := HLE.out
      by_cases h4 : q = (k : Int)
      · have HOKK : Hid (netOkAt n ls k = true) := Lib.hid (by rw [HYES.out, h1, h2, hq, h4]; simp [h3])
        subst h4
        have H1 := Lib.hid h1
        have H2 := Lib.hid h2
        clear h1 h2 hq hq0 hqk HLE
        go_wp2_with fail
        rw [← hU]
        clear hU
        clear c0 c1
        have c0 := HNU.out.c0
        have c1 := HNU.out.c1
        have y0 := HPU.out.c0
        have y1 := HPU.out.c1
        go_wp2_with (first | (go_at_call 46; refine (isNode_any _ n _ len cap _ hn1 hn8).mono ?_; first | (rw [H1.out]; rintro e w2 ⟨rfl, hb2⟩; have HN2 := Lib.hid (HNU.out.below hb2); have HS2 := Lib.hid (HSU.out.below hb2); have HP2 := Lib.hid (HPU.out.below hb2); have HB2 := Lib.hid (below_up HBU.out hb2 (Nat.le_refl _)); have c0 := HN2.out.c0; have c1 := HN2.out.c1; have y0 := HP2.out.c0; have y1 := HP2.out.c1; clear hb2) | (rw [H2.out]; rintro e w3 ⟨rfl, hb3⟩; have HN3 := Lib.hid (HN2.out.below hb3); have HS3 := Lib.hid (HS2.out.below hb3); have HP3 := Lib.hid (HP2.out.below hb3); have HB3 := Lib.hid (below_up HB2.out hb3 (Nat.le_refl _)); have c0 := HN3.out.c0; have c1 := HN3.out.c1; have y0 := HP3.out.c0; have y1 := HP3.out.c1; clear hb3)) | (go_at_call 16; refine (lkP_any _ n _ len cap ls s t hl HS3.out).mono ?_; rw [HLV.out]; rintro e w4 ⟨rfl, hb4⟩; have HB4 := Lib.hid (below_up HB3.out hb4 (Nat.le_refl _)); clear hb4))
        go_roundw
        case rel => exact ⟨k + 1, by omega, by go_num, Lib.hid (next_all HA.out HOKK.out), HB4.out⟩
        case measure => simp [intOf]; omega
      · have HE : Hid (v = false) := Lib.hid (HNO.out (by rw [hq]; simp [h4]))
        have h5 : (q != (k : Int)) = true := by simp [h4]
        have H1 := Lib.hid h1
        have H2 := Lib.hid h2
        clear h1 h2 hq hq0 HLE
        go_wp2_with fail
        rw [← hU]
        clear hU
        clear c0 c1
        have c0 := HNU.out.c0
        have c1 := HNU.out.c1
        have y0 := HPU.out.c0
        have y1 := HPU.out.c1
        go_wp2_with (first | (go_at_call 46; refine (isNode_any _ n _ len cap _ hn1 hn8).mono ?_; first | (rw [H1.out]; rintro e w2 ⟨rfl, hb2⟩; have HN2 := Lib.hid (HNU.out.below hb2); have HS2 := Lib.hid (HSU.out.below hb2); have HP2 := Lib.hid (HPU.out.below hb2); have HB2 := Lib.hid (below_up HBU.out hb2 (Nat.le_refl _)); have c0 := HN2.out.c0; have c1 := HN2.out.c1; have y0 := HP2.out.c0; have y1 := HP2.out.c1; clear hb2) | (rw [H2.out]; rintro e w3 ⟨rfl, hb3⟩; have HN3 := Lib.hid (HN2.out.below hb3); have HS3 := Lib.hid (HS2.out.below hb3); have HP3 := Lib.hid (HP2.out.below hb3); have HB3 := Lib.hid (below_up HB2.out hb3 (Nat.le_refl _)); have c0 := HN3.out.c0; have c1 := HN3.out.c1; have y0 := HP3.out.c0; have y1 := HP3.out.c1; clear hb3)) | (go_at_call 16; refine (lkP_any _ n _ len cap ls s t hl HS3.out).mono ?_; rw [HLV.out]; rintro e w4 ⟨rfl, hb4⟩; have HB4 := Lib.hid (below_up HB3.out hb4 (Nat.le_refl _)); clear hb4))
        go_ret
        exact ⟨ret_bool HE.out.symm, HBV.out.trans (HB4.out.mono HBV.out.size)⟩
    · obtain rfl : k = len := by omega
      have HE : Hid (v = true) := Lib.hid (by rw [HV.out]; exact netB_yes HNN.out (by rw [HL.out]; exact HLN.out) (fun j hj => HA.out j (by rw [HL.out] at hj; exact hj)))
      go_wp2
      go_ret
      exact ⟨ret_bool HE.out.symm, HBV.out.trans (HB.out.mono HBV.out.size)⟩
end Go.Proofs.Ytbjjgcfmdlinaaa
