/- The walk of the law on routes. -/
import Derived.Test.YtakhlbagjomgbaaNetsF
import Derived.Test.YtakhlbagjomgbaaDraw7d
import Derived.Test.YtakhlbagjomgbaaBig
import Derived.Deep.RegionHeld3
namespace Go.Proofs.Ytakhlbagjomgbaa
open Go.RowKit
def LawYes7 (W : World) (e : Ending) (w' : World) : Prop := e = .returned (.bool true) ∧ Below W.heap.size W w'
set_option maxRecDepth 20000 in
set_option maxHeartbeats 800000 in
theorem sum_any (W : World) (a : Option Addr) (len cap : Nat) (zs : List Int) (s : Int) (hl : len ≤ 8) (hb : ∀ x ∈ zs, 0 ≤ x ∧ x ≤ 1) (hs : Sees .i64 W a len zs) (hsum : sumN zs zs.length = s) :
    Calls Try.prog 17 #[.slice a len cap] W fun e w' => e = .returned (.int .i64 s) ∧ W = w' := by
  have HS := Lib.hid hs
  have HB := Lib.hid hb
  have HSUM := Lib.hid hsum
  clear hs hb hsum
  go_enter Try.func17, Try.ntmps17
  go_wp2
  go_loopw [3, 4] (fun t i wr => ∃ (k : Nat) (u : Int), k ≤ len ∧ i = .int .i64 k ∧ t = .int .i64 u ∧ Hid (u = sumN zs k) ∧ wr = W) (fun _ i _ => len - (intOf i).toNat)
  case atStart => exact ⟨0, 0, Nat.zero_le _, rfl, rfl, Lib.hid rfl, rfl⟩
  case round =>
    obtain ⟨k, u, hk, rfl, rfl, HU, rfl⟩ := hrel
    by_cases hlt : k < len
    · rcases HS.out.2.2 with h0 | ⟨b, o, rfl, hb, hc⟩
      · omega
      have hx := hc k hlt
      have hkz : k < zs.length := by rw [HS.out.1]; exact hlt
      have hbit := HB.out _ (getD_mem hkz)
      have hub := sumN_bits HB.out k (by omega)
      rw [← HU.out] at hub
      obtain ⟨y, hy⟩ : ∃ y, zs.getD k 0 = y := ⟨_, rfl⟩
      rw [hy] at hx hbit
      obtain ⟨hu0, hu1⟩ := hub
      obtain ⟨hy0, hy1⟩ := hbit
      have HN : Hid (u + y = sumN zs (k + 1)) := Lib.hid (by simp only [sumN]; rw [HU.out, hy])
      clear hc hy
      go_wp2
      go_roundw
      case rel => exact ⟨k + 1, u + y, by omega, by go_num, by go_num, HN, trivial⟩
      case measure => simp [intOf]; omega
    · obtain rfl : k = len := by omega
      have HE : Hid (u = s) := Lib.hid (by rw [HU.out, ← HSUM.out, HS.out.1])
      go_wp2
      go_ret
      exact ⟨ret_int HE.out, rfl⟩
theorem own_first {k : IntKind} {e : TypeId} {w : World} {lo hi g c : Nat} {q : Int} (h : Own k e w lo hi (some ⟨g, 0, none⟩) 1 c [q]) : w.cell? ⟨g, 0, none⟩ = some (.int k q) := by
  rcases h.spot with ⟨h0, _⟩ | ⟨g', hg, _, _, _, _, hc, _⟩
  · cases h0
  · cases hg; exact hc 0 (by omega)
theorem rowA_bits (p : List Int) (n : Int) : ∀ x ∈ rowA p n, 0 ≤ x ∧ x ≤ 1 := fun x hx => by
  unfold rowA at hx
  split at hx
  · obtain ⟨i, _, rfl⟩ := List.mem_map.1 hx
    split <;> omega
  · cases hx
set_option maxRecDepth 20000 in
set_option maxHeartbeats 25600000 in
theorem nets_small (W : World) (a0 : Option Addr) (len0 cap0 : Nat) (hl : len0 ≤ 1048576) (hc : CodeAt W W.heap.size a0 len0) : Calls Try.prog 3 #[.slice a0 len0 cap0] W (LawYes7 W) := by
  have HC := Lib.hid hc
  clear hc
  go_enter Try.func3, Try.ntmps3
  go_wp2_with (first
    | (go_at_call 10; refine (big_no _ a0 len0 cap0 hl).mono ?_; rintro e w0 ⟨rfl, rfl⟩)
    | (go_at_call 11; refine (drawRt_any _ a0 len0 cap0 hl HC.out).mono ?_; rintro e w1 ⟨n, a, len, cap, ls, x, y, hl7, hx, hy, rfl, hs1, _, hb1⟩; have HS1 := Lib.hid hs1; have HB1 := Lib.hid hb1; have HXI := Lib.hid hx; have HYI := Lib.hid hy; clear hs1 hb1 hx hy))
  obtain ⟨V, hV⟩ : ∃ V, V = w1.alloc (.cells #[.int .i64 n, .slice a len cap] 26) := ⟨_, rfl⟩
  have hbV : Below w1.heap.size w1 V := by rw [hV]; exact below_new _ _
  have HBV := Lib.hid (below_up HB1.out hbV (Nat.le_refl _))
  have HNV := Lib.hid (show NetAt V w1.heap.size n a len cap by rw [hV]; exact net_new _ _ _ _ _ _)
  have HSV := Lib.hid (HS1.out.below hbV)
  have HLL : Hid (ls.length = len) := Lib.hid HS1.out.1
  obtain ⟨P, hP⟩ : ∃ P, P = routeV n ls x y := ⟨_, rfl⟩
  have HP := Lib.hid hP
  have hpl8 : P.length ≤ 8 := by rw [hP]; exact route_len n ls x y
  have HBK : Hid ((routeV n ls y x).length = P.length) := Lib.hid (by rw [hP]; exact route_back n ls x y)
  rw [← hV]
  clear hV hbV
  refine (routeP_any V n a len cap ls x y (by omega) HSV.out).mono ?_
  rw [← hP]
  rintro e w2 ⟨pa, pl, pc, rfl, hop, hb2⟩
  have HB2 := Lib.hid (below_up HBV.out hb2 (Nat.le_refl _))
  have HN2 := Lib.hid (HNV.out.below hb2)
  have HS2 := Lib.hid (HSV.out.below hb2)
  have hpl : P.length = pl := hop.1
  have HPL := Lib.hid hpl
  rw [hpl] at HBK hpl8
  have HO2 := Lib.hid hop
  clear hop hb2 hP hpl
  obtain ⟨nb, hnb⟩ : ∃ nb, netB n ls = nb := ⟨_, rfl⟩
  have HNB := Lib.hid hnb
  obtain ⟨q, hq⟩ : ∃ q, lk ls x y = q := ⟨_, rfl⟩
  have HQ := Lib.hid hq
  clear hnb hq
  have c0 := HN2.out.c0
  have c1 := HN2.out.c1
  go_wp2_with fail
  go_region_held3 (fun w' => w'.cell? ⟨w1.heap.size, 0, none⟩ = some (.int .i64 n) ∧ w'.cell? ⟨w1.heap.size, 1, none⟩ = some (.slice a len cap)) (go_keep) (first
    | (go_at_call 13; refine (netP_any _ n a len cap ls (by omega) (by first | exact HSv.out | exact HS2.out.below (Below.refl _ _).drew)).mono ?_; rw [HNB.out]; rintro e v ⟨rfl, hb⟩; have HBv := Lib.hid (show Below W.heap.size W v by first | exact below_up HBv.out hb (Nat.le_refl _) | exact below_up HB2.out (below_drop hb) (Nat.le_refl _)); have HNv := Lib.hid (show NetAt v w1.heap.size n a len cap by first | exact HNv.out.below hb | exact HN2.out.below (below_drop hb)); have HSv := Lib.hid (show SeesL v a len ls by first | exact HSv.out.below hb | exact HS2.out.below (below_drop hb)); have HOv := Lib.hid (show Own .i64 3 v V.heap.size w2.heap.size pa pl pc P by first | exact HOv.out.below hb | exact HO2.out.below (below_drop hb)); have c0 := HNv.out.c0; have c1 := HNv.out.c1; clear hb)
    | (go_at_call 14; refine (specNet_any _ n a len cap ls (by omega) (by first | exact HSv.out | exact HS2.out.below (Below.refl _ _).drew)).mono ?_; rw [HNB.out]; rintro e v ⟨rfl, hb⟩; have HBv := Lib.hid (show Below W.heap.size W v by first | exact below_up HBv.out hb (Nat.le_refl _) | exact below_up HB2.out (below_drop hb) (Nat.le_refl _)); have HNv := Lib.hid (show NetAt v w1.heap.size n a len cap by first | exact HNv.out.below hb | exact HN2.out.below (below_drop hb)); have HSv := Lib.hid (show SeesL v a len ls by first | exact HSv.out.below hb | exact HS2.out.below (below_drop hb)); have HOv := Lib.hid (show Own .i64 3 v V.heap.size w2.heap.size pa pl pc P by first | exact HOv.out.below hb | exact HO2.out.below (below_drop hb)); have c0 := HNv.out.c0; have c1 := HNv.out.c1; clear hb))
  all_goals
    have hnbq : (nb != nb) = false := by simp
    by_cases hp0 : pl = 0
    · subst hp0
      cases nb
      · go_wp2_with (first | (go_at_call 16; refine (lkP_any _ n a len cap ls x y (by omega) HSv.out).mono ?_; rw [HQ.out]; rintro e v ⟨rfl, hb⟩; have HBv := Lib.hid (below_up HBv.out hb (Nat.le_refl _)); have HNv := Lib.hid (HNv.out.below hb); have HSv := Lib.hid (HSv.out.below hb); have HOv := Lib.hid (HOv.out.below hb); have c0 := HNv.out.c0; have c1 := HNv.out.c1; clear hb) | (go_at_call 13; refine (netP_any _ n a len cap ls (by omega) HSv.out).mono ?_; rw [HNB.out]; rintro e v ⟨rfl, hb⟩; have HBv := Lib.hid (below_up HBv.out hb (Nat.le_refl _)); have HNv := Lib.hid (HNv.out.below hb); have HSv := Lib.hid (HSv.out.below hb); have HOv := Lib.hid (HOv.out.below hb); have c0 := HNv.out.c0; have c1 := HNv.out.c1; clear hb) | (go_at_call 12; refine (routeP_any _ n a len cap ls y x (by omega) HSv.out).mono ?_; rintro e v ⟨ba, bl, bc, rfl, hob, hb⟩; have hbl : 0 = bl := (HBK.out.symm.trans hob.1); subst hbl; clear hob; have HBv := Lib.hid (below_up HBv.out hb (Nat.le_refl _)); have HNv := Lib.hid (HNv.out.below hb); have HSv := Lib.hid (HSv.out.below hb); have HOv := Lib.hid (HOv.out.below hb); have c0 := HNv.out.c0; have c1 := HNv.out.c1; clear hb))
        go_loopw [9, 10, 11] (fun i _ _ wr => ∃ c : Nat, c ≤ 8 ∧ i = .int .i64 c ∧ Below v.heap.size v wr) (fun i _ _ _ => 8 - (intOf i).toNat)
        case atStart => exact ⟨0, by omega, rfl, Below.refl _ _⟩
        case round =>
          clear c0 c1
          obtain ⟨c, hc8, rfl, hbr⟩ := hrel
          have HBr := Lib.hid (below_up HBv.out hbr (Nat.le_refl _))
          have HNr := Lib.hid (HNv.out.below hbr)
          have HSr := Lib.hid (HSv.out.below hbr)
          have HOr := Lib.hid (HOv.out.below hbr)
          have HBB := Lib.hid hbr
          have c0 := HNr.out.c0
          have c1 := HNr.out.c1
          clear hbr
          by_cases h1 : (c : Int) < n
          case neg =>
            by_cases hl0 : len = 0
            · subst hl0
              have i0 : (0 : Int) = 0 := rfl
              go_wp2
              go_ret
              exact ⟨rfl, HBr.out⟩
            by_cases hl6 : len ≤ 6
            · have j0 : ¬ (len : Int) = 0 := by omega
              have j6 : ¬ (6 : Int) < (len : Int) := by omega
              have HSM : Hid (sumN (rowA P (len : Int)) (rowA P (len : Int)).length = ((0 : Nat) : Int)) := Lib.hid (by
                have h := route_sum (n := n) (ls := ls) (a := x) (b := y) (by rw [HLL.out]; omega) (by rw [HLL.out]; exact hl6)
                rw [HLL.out, ← HP.out, HPL.out] at h
                exact h)
              go_wp2_with (first
                | (go_at_call 18; refine (rowP_any _ pa 0 pc P (len : Int) (by omega) HOr.out.sees).mono ?_; rintro e v3 ⟨ra, rl, rc, rfl, hor, hb⟩; have hrl : rl ≤ 6 := (by have h1 := hor.1; have h2 := rowA_len P (len : Int); omega); have HOR := Lib.hid hor.sees; have HBr := Lib.hid (below_up HBr.out hb (Nat.le_refl _)); clear hor hb)
                | (go_at_call 17; refine (sum_any _ ra rl rc (rowA P (len : Int)) ((0 : Nat) : Int) (by omega) (rowA_bits _ _) HOR.out HSM.out).mono ?_; rintro e v4 ⟨rfl, rfl⟩))
              go_ret
              exact ⟨by simp, HBr.out⟩
            · have j0 : ¬ (len : Int) = 0 := by omega
              have j6 : (6 : Int) < (len : Int) := by omega
              go_wp2
              go_ret
              exact ⟨rfl, HBr.out⟩
          by_cases h2 : (c : Int) < 8
          case neg =>
            by_cases hl0 : len = 0
            · subst hl0
              have i0 : (0 : Int) = 0 := rfl
              go_wp2
              go_ret
              exact ⟨rfl, HBr.out⟩
            by_cases hl6 : len ≤ 6
            · have j0 : ¬ (len : Int) = 0 := by omega
              have j6 : ¬ (6 : Int) < (len : Int) := by omega
              have HSM : Hid (sumN (rowA P (len : Int)) (rowA P (len : Int)).length = ((0 : Nat) : Int)) := Lib.hid (by
                have h := route_sum (n := n) (ls := ls) (a := x) (b := y) (by rw [HLL.out]; omega) (by rw [HLL.out]; exact hl6)
                rw [HLL.out, ← HP.out, HPL.out] at h
                exact h)
              go_wp2_with (first
                | (go_at_call 18; refine (rowP_any _ pa 0 pc P (len : Int) (by omega) HOr.out.sees).mono ?_; rintro e v3 ⟨ra, rl, rc, rfl, hor, hb⟩; have hrl : rl ≤ 6 := (by have h1 := hor.1; have h2 := rowA_len P (len : Int); omega); have HOR := Lib.hid hor.sees; have HBr := Lib.hid (below_up HBr.out hb (Nat.le_refl _)); clear hor hb)
                | (go_at_call 17; refine (sum_any _ ra rl rc (rowA P (len : Int)) ((0 : Nat) : Int) (by omega) (rowA_bits _ _) HOR.out HSM.out).mono ?_; rintro e v4 ⟨rfl, rfl⟩))
              go_ret
              exact ⟨by simp, HBr.out⟩
            · have j0 : ¬ (len : Int) = 0 := by omega
              have j6 : (6 : Int) < (len : Int) := by omega
              go_wp2
              go_ret
              exact ⟨rfl, HBr.out⟩
          by_cases hl0 : len = 0
          · subst hl0
            have i0 : (0 : Int) = 0 := rfl
            go_wp2
            go_ret
            exact ⟨rfl, HBr.out⟩
          by_cases hl6 : len ≤ 6
          · have j0 : ¬ (len : Int) = 0 := by omega
            have j6 : ¬ (6 : Int) < (len : Int) := by omega
            have HSM : Hid (sumN (rowA P (len : Int)) (rowA P (len : Int)).length = ((0 : Nat) : Int)) := Lib.hid (by
              have h := route_sum (n := n) (ls := ls) (a := x) (b := y) (by rw [HLL.out]; omega) (by rw [HLL.out]; exact hl6)
              rw [HLL.out, ← HP.out, HPL.out] at h
              exact h)
            go_wp2_with (first
              | (go_at_call 18; refine (rowP_any _ pa 0 pc P (len : Int) (by omega) HOr.out.sees).mono ?_; rintro e v3 ⟨ra, rl, rc, rfl, hor, hb⟩; have hrl : rl ≤ 6 := (by have h1 := hor.1; have h2 := rowA_len P (len : Int); omega); have HOR := Lib.hid hor.sees; have HBr := Lib.hid (below_up HBr.out hb (Nat.le_refl _)); clear hor hb)
              | (go_at_call 17; refine (sum_any _ ra rl rc (rowA P (len : Int)) ((0 : Nat) : Int) (by omega) (rowA_bits _ _) HOR.out HSM.out).mono ?_; rintro e v4 ⟨rfl, rfl⟩))
            go_ret
            exact ⟨by simp, HBr.out⟩
          · have j0 : ¬ (len : Int) = 0 := by omega
            have j6 : (6 : Int) < (len : Int) := by omega
            go_wp2
            go_ret
            exact ⟨rfl, HBr.out⟩
      · have hqn : q < 0 := by
          rcases Int.lt_or_le q 0 with h | h
          · exact h
          · exfalso
            have h2 := route_link HNB.out (a := x) (b := y) (by rw [HQ.out]; exact h)
            rw [← HP.out] at h2
            have h3 := HPL.out
            rw [h2] at h3
            simp at h3
        have hqn2 : ¬ 0 ≤ q := by omega
        go_wp2_with (first | (go_at_call 16; refine (lkP_any _ n a len cap ls x y (by omega) HSv.out).mono ?_; rw [HQ.out]; rintro e v ⟨rfl, hb⟩; have HBv := Lib.hid (below_up HBv.out hb (Nat.le_refl _)); have HNv := Lib.hid (HNv.out.below hb); have HSv := Lib.hid (HSv.out.below hb); have HOv := Lib.hid (HOv.out.below hb); have c0 := HNv.out.c0; have c1 := HNv.out.c1; clear hb) | (go_at_call 13; refine (netP_any _ n a len cap ls (by omega) HSv.out).mono ?_; rw [HNB.out]; rintro e v ⟨rfl, hb⟩; have HBv := Lib.hid (below_up HBv.out hb (Nat.le_refl _)); have HNv := Lib.hid (HNv.out.below hb); have HSv := Lib.hid (HSv.out.below hb); have HOv := Lib.hid (HOv.out.below hb); have c0 := HNv.out.c0; have c1 := HNv.out.c1; clear hb) | (go_at_call 12; refine (routeP_any _ n a len cap ls y x (by omega) HSv.out).mono ?_; rintro e v ⟨ba, bl, bc, rfl, hob, hb⟩; have hbl : 0 = bl := (HBK.out.symm.trans hob.1); subst hbl; clear hob; have HBv := Lib.hid (below_up HBv.out hb (Nat.le_refl _)); have HNv := Lib.hid (HNv.out.below hb); have HSv := Lib.hid (HSv.out.below hb); have HOv := Lib.hid (HOv.out.below hb); have c0 := HNv.out.c0; have c1 := HNv.out.c1; clear hb))
        go_loopw [9, 10, 11] (fun i _ _ wr => ∃ c : Nat, c ≤ 8 ∧ i = .int .i64 c ∧ Below v.heap.size v wr) (fun i _ _ _ => 8 - (intOf i).toNat)
        case atStart => exact ⟨0, by omega, rfl, Below.refl _ _⟩
        case round =>
          clear c0 c1
          obtain ⟨c, hc8, rfl, hbr⟩ := hrel
          have HBr := Lib.hid (below_up HBv.out hbr (Nat.le_refl _))
          have HNr := Lib.hid (HNv.out.below hbr)
          have HSr := Lib.hid (HSv.out.below hbr)
          have HOr := Lib.hid (HOv.out.below hbr)
          have HBB := Lib.hid hbr
          have c0 := HNr.out.c0
          have c1 := HNr.out.c1
          clear hbr
          by_cases h1 : (c : Int) < n
          case neg =>
            by_cases hl0 : len = 0
            · subst hl0
              have i0 : (0 : Int) = 0 := rfl
              go_wp2
              go_ret
              exact ⟨rfl, HBr.out⟩
            by_cases hl6 : len ≤ 6
            · have j0 : ¬ (len : Int) = 0 := by omega
              have j6 : ¬ (6 : Int) < (len : Int) := by omega
              have HSM : Hid (sumN (rowA P (len : Int)) (rowA P (len : Int)).length = ((0 : Nat) : Int)) := Lib.hid (by
                have h := route_sum (n := n) (ls := ls) (a := x) (b := y) (by rw [HLL.out]; omega) (by rw [HLL.out]; exact hl6)
                rw [HLL.out, ← HP.out, HPL.out] at h
                exact h)
              go_wp2_with (first
                | (go_at_call 18; refine (rowP_any _ pa 0 pc P (len : Int) (by omega) HOr.out.sees).mono ?_; rintro e v3 ⟨ra, rl, rc, rfl, hor, hb⟩; have hrl : rl ≤ 6 := (by have h1 := hor.1; have h2 := rowA_len P (len : Int); omega); have HOR := Lib.hid hor.sees; have HBr := Lib.hid (below_up HBr.out hb (Nat.le_refl _)); clear hor hb)
                | (go_at_call 17; refine (sum_any _ ra rl rc (rowA P (len : Int)) ((0 : Nat) : Int) (by omega) (rowA_bits _ _) HOR.out HSM.out).mono ?_; rintro e v4 ⟨rfl, rfl⟩))
              go_ret
              exact ⟨by simp, HBr.out⟩
            · have j0 : ¬ (len : Int) = 0 := by omega
              have j6 : (6 : Int) < (len : Int) := by omega
              go_wp2
              go_ret
              exact ⟨rfl, HBr.out⟩
          by_cases h2 : (c : Int) < 8
          case neg =>
            by_cases hl0 : len = 0
            · subst hl0
              have i0 : (0 : Int) = 0 := rfl
              go_wp2
              go_ret
              exact ⟨rfl, HBr.out⟩
            by_cases hl6 : len ≤ 6
            · have j0 : ¬ (len : Int) = 0 := by omega
              have j6 : ¬ (6 : Int) < (len : Int) := by omega
              have HSM : Hid (sumN (rowA P (len : Int)) (rowA P (len : Int)).length = ((0 : Nat) : Int)) := Lib.hid (by
                have h := route_sum (n := n) (ls := ls) (a := x) (b := y) (by rw [HLL.out]; omega) (by rw [HLL.out]; exact hl6)
                rw [HLL.out, ← HP.out, HPL.out] at h
                exact h)
              go_wp2_with (first
                | (go_at_call 18; refine (rowP_any _ pa 0 pc P (len : Int) (by omega) HOr.out.sees).mono ?_; rintro e v3 ⟨ra, rl, rc, rfl, hor, hb⟩; have hrl : rl ≤ 6 := (by have h1 := hor.1; have h2 := rowA_len P (len : Int); omega); have HOR := Lib.hid hor.sees; have HBr := Lib.hid (below_up HBr.out hb (Nat.le_refl _)); clear hor hb)
                | (go_at_call 17; refine (sum_any _ ra rl rc (rowA P (len : Int)) ((0 : Nat) : Int) (by omega) (rowA_bits _ _) HOR.out HSM.out).mono ?_; rintro e v4 ⟨rfl, rfl⟩))
              go_ret
              exact ⟨by simp, HBr.out⟩
            · have j0 : ¬ (len : Int) = 0 := by omega
              have j6 : (6 : Int) < (len : Int) := by omega
              go_wp2
              go_ret
              exact ⟨rfl, HBr.out⟩
          by_cases hl0 : len = 0
          · subst hl0
            have i0 : (0 : Int) = 0 := rfl
            go_wp2
            go_ret
            exact ⟨rfl, HBr.out⟩
          by_cases hl6 : len ≤ 6
          · have j0 : ¬ (len : Int) = 0 := by omega
            have j6 : ¬ (6 : Int) < (len : Int) := by omega
            have HSM : Hid (sumN (rowA P (len : Int)) (rowA P (len : Int)).length = ((0 : Nat) : Int)) := Lib.hid (by
              have h := route_sum (n := n) (ls := ls) (a := x) (b := y) (by rw [HLL.out]; omega) (by rw [HLL.out]; exact hl6)
              rw [HLL.out, ← HP.out, HPL.out] at h
              exact h)
            go_wp2_with (first
              | (go_at_call 18; refine (rowP_any _ pa 0 pc P (len : Int) (by omega) HOr.out.sees).mono ?_; rintro e v3 ⟨ra, rl, rc, rfl, hor, hb⟩; have hrl : rl ≤ 6 := (by have h1 := hor.1; have h2 := rowA_len P (len : Int); omega); have HOR := Lib.hid hor.sees; have HBr := Lib.hid (below_up HBr.out hb (Nat.le_refl _)); clear hor hb)
              | (go_at_call 17; refine (sum_any _ ra rl rc (rowA P (len : Int)) ((0 : Nat) : Int) (by omega) (rowA_bits _ _) HOR.out HSM.out).mono ?_; rintro e v4 ⟨rfl, rfl⟩))
            go_ret
            exact ⟨by simp, HBr.out⟩
          · have j0 : ¬ (len : Int) = 0 := by omega
            have j6 : (6 : Int) < (len : Int) := by omega
            go_wp2
            go_ret
            exact ⟨rfl, HBr.out⟩
    · have hrp := route_path (n := n) (ls := ls) (a := x) (b := y) (by rw [← HP.out, HPL.out]; exact hp0)
      rw [← HP.out] at hrp
      have hnbt : nb = true := by rw [← HNB.out]; exact hrp.2
      subst hnbt
      have HPT := Lib.hid hrp.1
      have hpos : 0 < pl := by omega
      have hposi : (0 : Int) < (pl : Int) := by omega
      clear hrp
      by_cases hqn : 0 ≤ q
      · have h2 := route_link HNB.out (a := x) (b := y) (by rw [HQ.out]; exact hqn)
        rw [← HP.out, HQ.out] at h2
        have hp1 : pl = 1 := by rw [← HPL.out, h2]; rfl
        have HP2 := Lib.hid h2
        subst hp1
        clear h2
        rcases HOv.out.spot with ⟨_, h0, _⟩ | ⟨g, rfl, _⟩
        · omega
        go_wp2_with (first | (go_at_call 16; refine (lkP_any _ n a len cap ls x y (by omega) HSv.out).mono ?_; rw [HQ.out]; rintro e v ⟨rfl, hb⟩; have HBv := Lib.hid (below_up HBv.out hb (Nat.le_refl _)); have HNv := Lib.hid (HNv.out.below hb); have HSv := Lib.hid (HSv.out.below hb); have HOv := Lib.hid (HOv.out.below hb); have c0 := HNv.out.c0; have c1 := HNv.out.c1; have hp0c := own_first (show Own .i64 3 v V.heap.size w2.heap.size (some ⟨g, 0, none⟩) 1 pc [q] by rw [← HP2.out]; exact HOv.out); clear hb) | (go_at_call 13; refine (netP_any _ n a len cap ls (by omega) HSv.out).mono ?_; rw [HNB.out]; rintro e v ⟨rfl, hb⟩; have HBv := Lib.hid (below_up HBv.out hb (Nat.le_refl _)); have HNv := Lib.hid (HNv.out.below hb); have HSv := Lib.hid (HSv.out.below hb); have HOv := Lib.hid (HOv.out.below hb); have c0 := HNv.out.c0; have c1 := HNv.out.c1; have hp0c := own_first (show Own .i64 3 v V.heap.size w2.heap.size (some ⟨g, 0, none⟩) 1 pc [q] by rw [← HP2.out]; exact HOv.out); clear hb) | (go_at_call 15; refine (pathP_any _ n a len cap ls _ 1 pc P x y (by omega) HSv.out (by omega) HOv.out.sees).mono ?_; rw [HPT.out]; rintro e v ⟨rfl, hb⟩; have HBv := Lib.hid (below_up HBv.out hb (Nat.le_refl _)); have HNv := Lib.hid (HNv.out.below hb); have HSv := Lib.hid (HSv.out.below hb); have HOv := Lib.hid (HOv.out.below hb); have c0 := HNv.out.c0; have c1 := HNv.out.c1; have hp0c := own_first (show Own .i64 3 v V.heap.size w2.heap.size (some ⟨g, 0, none⟩) 1 pc [q] by rw [← HP2.out]; exact HOv.out); clear hb) | (go_at_call 12; refine (routeP_any _ n a len cap ls y x (by omega) HSv.out).mono ?_; rintro e v ⟨ba, bl, bc, rfl, hob, hb⟩; have hbl : 1 = bl := (HBK.out.symm.trans hob.1); subst hbl; clear hob; have HBv := Lib.hid (below_up HBv.out hb (Nat.le_refl _)); have HNv := Lib.hid (HNv.out.below hb); have HSv := Lib.hid (HSv.out.below hb); have HOv := Lib.hid (HOv.out.below hb); have c0 := HNv.out.c0; have c1 := HNv.out.c1; clear hb))
        go_loopw [9, 10, 11] (fun i _ _ wr => ∃ c : Nat, c ≤ 8 ∧ i = .int .i64 c ∧ Below v.heap.size v wr) (fun i _ _ _ => 8 - (intOf i).toNat)
        case atStart => exact ⟨0, by omega, rfl, Below.refl _ _⟩
        case round =>
          clear c0 c1
          obtain ⟨c, hc8, rfl, hbr⟩ := hrel
          have HBr := Lib.hid (below_up HBv.out hbr (Nat.le_refl _))
          have HNr := Lib.hid (HNv.out.below hbr)
          have HSr := Lib.hid (HSv.out.below hbr)
          have HOr := Lib.hid (HOv.out.below hbr)
          have HBB := Lib.hid hbr
          have c0 := HNr.out.c0
          have c1 := HNr.out.c1
          clear hbr
          by_cases h1 : (c : Int) < n
          case neg =>
            by_cases hl0 : len = 0
            · subst hl0
              have i0 : (0 : Int) = 0 := rfl
              go_wp2
              go_ret
              exact ⟨rfl, HBr.out⟩
            by_cases hl6 : len ≤ 6
            · have j0 : ¬ (len : Int) = 0 := by omega
              have j6 : ¬ (6 : Int) < (len : Int) := by omega
              have HSM : Hid (sumN (rowA P (len : Int)) (rowA P (len : Int)).length = ((1 : Nat) : Int)) := Lib.hid (by
                have h := route_sum (n := n) (ls := ls) (a := x) (b := y) (by rw [HLL.out]; omega) (by rw [HLL.out]; exact hl6)
                rw [HLL.out, ← HP.out, HPL.out] at h
                exact h)
              go_wp2_with (first
                | (go_at_call 18; refine (rowP_any _ _ 1 pc P (len : Int) (by omega) HOr.out.sees).mono ?_; rintro e v3 ⟨ra, rl, rc, rfl, hor, hb⟩; have hrl : rl ≤ 6 := (by have h1 := hor.1; have h2 := rowA_len P (len : Int); omega); have HOR := Lib.hid hor.sees; have HBr := Lib.hid (below_up HBr.out hb (Nat.le_refl _)); clear hor hb)
                | (go_at_call 17; refine (sum_any _ ra rl rc (rowA P (len : Int)) ((1 : Nat) : Int) (by omega) (rowA_bits _ _) HOR.out HSM.out).mono ?_; rintro e v4 ⟨rfl, rfl⟩))
              go_ret
              exact ⟨by simp, HBr.out⟩
            · have j0 : ¬ (len : Int) = 0 := by omega
              have j6 : (6 : Int) < (len : Int) := by omega
              go_wp2
              go_ret
              exact ⟨rfl, HBr.out⟩
          by_cases h2 : (c : Int) < 8
          case neg =>
            by_cases hl0 : len = 0
            · subst hl0
              have i0 : (0 : Int) = 0 := rfl
              go_wp2
              go_ret
              exact ⟨rfl, HBr.out⟩
            by_cases hl6 : len ≤ 6
            · have j0 : ¬ (len : Int) = 0 := by omega
              have j6 : ¬ (6 : Int) < (len : Int) := by omega
              have HSM : Hid (sumN (rowA P (len : Int)) (rowA P (len : Int)).length = ((1 : Nat) : Int)) := Lib.hid (by
                have h := route_sum (n := n) (ls := ls) (a := x) (b := y) (by rw [HLL.out]; omega) (by rw [HLL.out]; exact hl6)
                rw [HLL.out, ← HP.out, HPL.out] at h
                exact h)
              go_wp2_with (first
                | (go_at_call 18; refine (rowP_any _ _ 1 pc P (len : Int) (by omega) HOr.out.sees).mono ?_; rintro e v3 ⟨ra, rl, rc, rfl, hor, hb⟩; have hrl : rl ≤ 6 := (by have h1 := hor.1; have h2 := rowA_len P (len : Int); omega); have HOR := Lib.hid hor.sees; have HBr := Lib.hid (below_up HBr.out hb (Nat.le_refl _)); clear hor hb)
                | (go_at_call 17; refine (sum_any _ ra rl rc (rowA P (len : Int)) ((1 : Nat) : Int) (by omega) (rowA_bits _ _) HOR.out HSM.out).mono ?_; rintro e v4 ⟨rfl, rfl⟩))
              go_ret
              exact ⟨by simp, HBr.out⟩
            · have j0 : ¬ (len : Int) = 0 := by omega
              have j6 : (6 : Int) < (len : Int) := by omega
              go_wp2
              go_ret
              exact ⟨rfl, HBr.out⟩
          obtain ⟨k1, hk1⟩ : ∃ k1, (routeV n ls x (c : Int)).length = k1 := ⟨_, rfl⟩
          obtain ⟨k2, hk2⟩ : ∃ k2, (routeV n ls (c : Int) y).length = k2 := ⟨_, rfl⟩
          have HTRI : Hid (¬ k1 = 0 → ¬ k2 = 0 → 1 ≤ k1 + k2) := Lib.hid (fun g1 g2 => by
            have h := route_tri (n := n) (ls := ls) (a := x) (b := y) (c := (c : Int)) (by rw [hk1]; exact g1) (by rw [hk2]; exact g2)
            rw [← HP.out, HPL.out, hk1, hk2] at h
            exact h)
          have hk1b : k1 ≤ 8 := by have := route_len n ls x (c : Int); omega
          have hk2b : k2 ≤ 8 := by have := route_len n ls (c : Int) y; omega
          have HK1 := Lib.hid hk1
          have HK2 := Lib.hid hk2
          clear hk1 hk2
          have hpli : (0 : Int) < ((1 : Nat) : Int) := by omega
          by_cases e1 : (c : Int) = x
          · subst e1
            go_wp2_with fail
            refine (routeP_any _ n a len cap ls (c : Int) (c : Int) (by omega) HSr.out).mono ?_
            rintro e v5 ⟨ba, bl, bc, rfl, hob, hb⟩
            have hbl : k1 = bl := HK1.out.symm.trans hob.1
            subst hbl
            have HBB := Lib.hid (below_up HBB.out hb (Nat.le_refl _))
            have HN5 := Lib.hid (HNr.out.below hb)
            have HS5 := Lib.hid (HSr.out.below hb)
            have c0 := HN5.out.c0
            have c1 := HN5.out.c1
            clear hob hb
            go_wp2_with (go_at_call 12; refine (routeP_any _ n a len cap ls (c : Int) y (by omega) HS5.out).mono ?_; rintro e v6 ⟨da, dl, dc, rfl, hod, hb⟩; have hdl : k2 = dl := (HK2.out.symm.trans hod.1); subst hdl; clear hod; have HBB := Lib.hid (below_up HBB.out hb (Nat.le_refl _)); clear hb)
            go_roundw
            case rel => exact ⟨c + 1, by omega, by go_num, HBB.out⟩
            case measure => simp [intOf]; omega
          have e1b : ((c : Int) != x) = true := by simp [e1]
          by_cases e2 : (c : Int) = y
          · subst e2
            go_wp2_with fail
            refine (routeP_any _ n a len cap ls x (c : Int) (by omega) HSr.out).mono ?_
            rintro e v5 ⟨ba, bl, bc, rfl, hob, hb⟩
            have hbl : k1 = bl := HK1.out.symm.trans hob.1
            subst hbl
            have HBB := Lib.hid (below_up HBB.out hb (Nat.le_refl _))
            have HN5 := Lib.hid (HNr.out.below hb)
            have HS5 := Lib.hid (HSr.out.below hb)
            have c0 := HN5.out.c0
            have c1 := HN5.out.c1
            clear hob hb
            go_wp2_with (go_at_call 12; refine (routeP_any _ n a len cap ls (c : Int) (c : Int) (by omega) HS5.out).mono ?_; rintro e v6 ⟨da, dl, dc, rfl, hod, hb⟩; have hdl : k2 = dl := (HK2.out.symm.trans hod.1); subst hdl; clear hod; have HBB := Lib.hid (below_up HBB.out hb (Nat.le_refl _)); clear hb)
            go_roundw
            case rel => exact ⟨c + 1, by omega, by go_num, HBB.out⟩
            case measure => simp [intOf]; omega
          have e2b : ((c : Int) != y) = true := by simp [e2]
          by_cases z1 : k1 = 0
          · subst z1
            go_wp2_with fail
            refine (routeP_any _ n a len cap ls x (c : Int) (by omega) HSr.out).mono ?_
            rintro e v5 ⟨ba, bl, bc, rfl, hob, hb⟩
            have hbl : 0 = bl := HK1.out.symm.trans hob.1
            subst hbl
            have HBB := Lib.hid (below_up HBB.out hb (Nat.le_refl _))
            have HN5 := Lib.hid (HNr.out.below hb)
            have HS5 := Lib.hid (HSr.out.below hb)
            have c0 := HN5.out.c0
            have c1 := HN5.out.c1
            clear hob hb
            go_wp2_with (go_at_call 12; refine (routeP_any _ n a len cap ls (c : Int) y (by omega) HS5.out).mono ?_; rintro e v6 ⟨da, dl, dc, rfl, hod, hb⟩; have hdl : k2 = dl := (HK2.out.symm.trans hod.1); subst hdl; clear hod; have HBB := Lib.hid (below_up HBB.out hb (Nat.le_refl _)); clear hb)
            go_roundw
            case rel => exact ⟨c + 1, by omega, by go_num, HBB.out⟩
            case measure => simp [intOf]; omega
          have z1i : (0 : Int) < (k1 : Int) := by omega
          by_cases z2 : k2 = 0
          · subst z2
            go_wp2_with fail
            refine (routeP_any _ n a len cap ls x (c : Int) (by omega) HSr.out).mono ?_
            rintro e v5 ⟨ba, bl, bc, rfl, hob, hb⟩
            have hbl : k1 = bl := HK1.out.symm.trans hob.1
            subst hbl
            have HBB := Lib.hid (below_up HBB.out hb (Nat.le_refl _))
            have HN5 := Lib.hid (HNr.out.below hb)
            have HS5 := Lib.hid (HSr.out.below hb)
            have c0 := HN5.out.c0
            have c1 := HN5.out.c1
            clear hob hb
            go_wp2_with (go_at_call 12; refine (routeP_any _ n a len cap ls (c : Int) y (by omega) HS5.out).mono ?_; rintro e v6 ⟨da, dl, dc, rfl, hod, hb⟩; have hdl : 0 = dl := (HK2.out.symm.trans hod.1); subst hdl; clear hod; have HBB := Lib.hid (below_up HBB.out hb (Nat.le_refl _)); clear hb)
            go_roundw
            case rel => exact ⟨c + 1, by omega, by go_num, HBB.out⟩
            case measure => simp [intOf]; omega
          have z2i : (0 : Int) < (k2 : Int) := by omega
          have htri := HTRI.out z1 z2
          have htri2 : ¬ ((k1 : Int) + (k2 : Int) < ((1 : Nat) : Int)) := by omega
          go_wp2_with fail
          refine (routeP_any _ n a len cap ls x (c : Int) (by omega) HSr.out).mono ?_
          rintro e v5 ⟨ba, bl, bc, rfl, hob, hb⟩
          have hbl : k1 = bl := HK1.out.symm.trans hob.1
          subst hbl
          have HBB := Lib.hid (below_up HBB.out hb (Nat.le_refl _))
          have HN5 := Lib.hid (HNr.out.below hb)
          have HS5 := Lib.hid (HSr.out.below hb)
          have c0 := HN5.out.c0
          have c1 := HN5.out.c1
          clear hob hb
          go_wp2_with (go_at_call 12; refine (routeP_any _ n a len cap ls (c : Int) y (by omega) HS5.out).mono ?_; rintro e v6 ⟨da, dl, dc, rfl, hod, hb⟩; have hdl : k2 = dl := (HK2.out.symm.trans hod.1); subst hdl; clear hod; have HBB := Lib.hid (below_up HBB.out hb (Nat.le_refl _)); clear hb)
          go_roundw
          case rel => exact ⟨c + 1, by omega, by go_num, HBB.out⟩
          case measure => simp [intOf]; omega
      · have hqn2 : q < 0 := by omega
        go_wp2_with (first | (go_at_call 16; refine (lkP_any _ n a len cap ls x y (by omega) HSv.out).mono ?_; rw [HQ.out]; rintro e v ⟨rfl, hb⟩; have HBv := Lib.hid (below_up HBv.out hb (Nat.le_refl _)); have HNv := Lib.hid (HNv.out.below hb); have HSv := Lib.hid (HSv.out.below hb); have HOv := Lib.hid (HOv.out.below hb); have c0 := HNv.out.c0; have c1 := HNv.out.c1; clear hb) | (go_at_call 13; refine (netP_any _ n a len cap ls (by omega) HSv.out).mono ?_; rw [HNB.out]; rintro e v ⟨rfl, hb⟩; have HBv := Lib.hid (below_up HBv.out hb (Nat.le_refl _)); have HNv := Lib.hid (HNv.out.below hb); have HSv := Lib.hid (HSv.out.below hb); have HOv := Lib.hid (HOv.out.below hb); have c0 := HNv.out.c0; have c1 := HNv.out.c1; clear hb) | (go_at_call 15; refine (pathP_any _ n a len cap ls pa pl pc P x y (by omega) HSv.out (by omega) HOv.out.sees).mono ?_; rw [HPT.out]; rintro e v ⟨rfl, hb⟩; have HBv := Lib.hid (below_up HBv.out hb (Nat.le_refl _)); have HNv := Lib.hid (HNv.out.below hb); have HSv := Lib.hid (HSv.out.below hb); have HOv := Lib.hid (HOv.out.below hb); have c0 := HNv.out.c0; have c1 := HNv.out.c1; clear hb) | (go_at_call 12; refine (routeP_any _ n a len cap ls y x (by omega) HSv.out).mono ?_; rintro e v ⟨ba, bl, bc, rfl, hob, hb⟩; have hbl : pl = bl := (HBK.out.symm.trans hob.1); subst hbl; clear hob; have HBv := Lib.hid (below_up HBv.out hb (Nat.le_refl _)); have HNv := Lib.hid (HNv.out.below hb); have HSv := Lib.hid (HSv.out.below hb); have HOv := Lib.hid (HOv.out.below hb); have c0 := HNv.out.c0; have c1 := HNv.out.c1; clear hb))
        go_loopw [9, 10, 11] (fun i _ _ wr => ∃ c : Nat, c ≤ 8 ∧ i = .int .i64 c ∧ Below v.heap.size v wr) (fun i _ _ _ => 8 - (intOf i).toNat)
        case atStart => exact ⟨0, by omega, rfl, Below.refl _ _⟩
        case round =>
          clear c0 c1
          obtain ⟨c, hc8, rfl, hbr⟩ := hrel
          have HBr := Lib.hid (below_up HBv.out hbr (Nat.le_refl _))
          have HNr := Lib.hid (HNv.out.below hbr)
          have HSr := Lib.hid (HSv.out.below hbr)
          have HOr := Lib.hid (HOv.out.below hbr)
          have HBB := Lib.hid hbr
          have c0 := HNr.out.c0
          have c1 := HNr.out.c1
          clear hbr
          by_cases h1 : (c : Int) < n
          case neg =>
            by_cases hl0 : len = 0
            · subst hl0
              have i0 : (0 : Int) = 0 := rfl
              go_wp2
              go_ret
              exact ⟨rfl, HBr.out⟩
            by_cases hl6 : len ≤ 6
            · have j0 : ¬ (len : Int) = 0 := by omega
              have j6 : ¬ (6 : Int) < (len : Int) := by omega
              have HSM : Hid (sumN (rowA P (len : Int)) (rowA P (len : Int)).length = (pl : Int)) := Lib.hid (by
                have h := route_sum (n := n) (ls := ls) (a := x) (b := y) (by rw [HLL.out]; omega) (by rw [HLL.out]; exact hl6)
                rw [HLL.out, ← HP.out, HPL.out] at h
                exact h)
              go_wp2_with (first
                | (go_at_call 18; refine (rowP_any _ pa pl pc P (len : Int) (by omega) HOr.out.sees).mono ?_; rintro e v3 ⟨ra, rl, rc, rfl, hor, hb⟩; have hrl : rl ≤ 6 := (by have h1 := hor.1; have h2 := rowA_len P (len : Int); omega); have HOR := Lib.hid hor.sees; have HBr := Lib.hid (below_up HBr.out hb (Nat.le_refl _)); clear hor hb)
                | (go_at_call 17; refine (sum_any _ ra rl rc (rowA P (len : Int)) (pl : Int) (by omega) (rowA_bits _ _) HOR.out HSM.out).mono ?_; rintro e v4 ⟨rfl, rfl⟩))
              go_ret
              exact ⟨by simp, HBr.out⟩
            · have j0 : ¬ (len : Int) = 0 := by omega
              have j6 : (6 : Int) < (len : Int) := by omega
              go_wp2
              go_ret
              exact ⟨rfl, HBr.out⟩
          by_cases h2 : (c : Int) < 8
          case neg =>
            by_cases hl0 : len = 0
            · subst hl0
              have i0 : (0 : Int) = 0 := rfl
              go_wp2
              go_ret
              exact ⟨rfl, HBr.out⟩
            by_cases hl6 : len ≤ 6
            · have j0 : ¬ (len : Int) = 0 := by omega
              have j6 : ¬ (6 : Int) < (len : Int) := by omega
              have HSM : Hid (sumN (rowA P (len : Int)) (rowA P (len : Int)).length = (pl : Int)) := Lib.hid (by
                have h := route_sum (n := n) (ls := ls) (a := x) (b := y) (by rw [HLL.out]; omega) (by rw [HLL.out]; exact hl6)
                rw [HLL.out, ← HP.out, HPL.out] at h
                exact h)
              go_wp2_with (first
                | (go_at_call 18; refine (rowP_any _ pa pl pc P (len : Int) (by omega) HOr.out.sees).mono ?_; rintro e v3 ⟨ra, rl, rc, rfl, hor, hb⟩; have hrl : rl ≤ 6 := (by have h1 := hor.1; have h2 := rowA_len P (len : Int); omega); have HOR := Lib.hid hor.sees; have HBr := Lib.hid (below_up HBr.out hb (Nat.le_refl _)); clear hor hb)
                | (go_at_call 17; refine (sum_any _ ra rl rc (rowA P (len : Int)) (pl : Int) (by omega) (rowA_bits _ _) HOR.out HSM.out).mono ?_; rintro e v4 ⟨rfl, rfl⟩))
              go_ret
              exact ⟨by simp, HBr.out⟩
            · have j0 : ¬ (len : Int) = 0 := by omega
              have j6 : (6 : Int) < (len : Int) := by omega
              go_wp2
              go_ret
              exact ⟨rfl, HBr.out⟩
          obtain ⟨k1, hk1⟩ : ∃ k1, (routeV n ls x (c : Int)).length = k1 := ⟨_, rfl⟩
          obtain ⟨k2, hk2⟩ : ∃ k2, (routeV n ls (c : Int) y).length = k2 := ⟨_, rfl⟩
          have HTRI : Hid (¬ k1 = 0 → ¬ k2 = 0 → pl ≤ k1 + k2) := Lib.hid (fun g1 g2 => by
            have h := route_tri (n := n) (ls := ls) (a := x) (b := y) (c := (c : Int)) (by rw [hk1]; exact g1) (by rw [hk2]; exact g2)
            rw [← HP.out, HPL.out, hk1, hk2] at h
            exact h)
          have hk1b : k1 ≤ 8 := by have := route_len n ls x (c : Int); omega
          have hk2b : k2 ≤ 8 := by have := route_len n ls (c : Int) y; omega
          have HK1 := Lib.hid hk1
          have HK2 := Lib.hid hk2
          clear hk1 hk2
          have hpli : (0 : Int) < (pl : Int) := by omega
          by_cases e1 : (c : Int) = x
          · subst e1
            go_wp2_with fail
            refine (routeP_any _ n a len cap ls (c : Int) (c : Int) (by omega) HSr.out).mono ?_
            rintro e v5 ⟨ba, bl, bc, rfl, hob, hb⟩
            have hbl : k1 = bl := HK1.out.symm.trans hob.1
            subst hbl
            have HBB := Lib.hid (below_up HBB.out hb (Nat.le_refl _))
            have HN5 := Lib.hid (HNr.out.below hb)
            have HS5 := Lib.hid (HSr.out.below hb)
            have c0 := HN5.out.c0
            have c1 := HN5.out.c1
            clear hob hb
            go_wp2_with (go_at_call 12; refine (routeP_any _ n a len cap ls (c : Int) y (by omega) HS5.out).mono ?_; rintro e v6 ⟨da, dl, dc, rfl, hod, hb⟩; have hdl : k2 = dl := (HK2.out.symm.trans hod.1); subst hdl; clear hod; have HBB := Lib.hid (below_up HBB.out hb (Nat.le_refl _)); clear hb)
            go_roundw
            case rel => exact ⟨c + 1, by omega, by go_num, HBB.out⟩
            case measure => simp [intOf]; omega
          have e1b : ((c : Int) != x) = true := by simp [e1]
          by_cases e2 : (c : Int) = y
          · subst e2
            go_wp2_with fail
            refine (routeP_any _ n a len cap ls x (c : Int) (by omega) HSr.out).mono ?_
            rintro e v5 ⟨ba, bl, bc, rfl, hob, hb⟩
            have hbl : k1 = bl := HK1.out.symm.trans hob.1
            subst hbl
            have HBB := Lib.hid (below_up HBB.out hb (Nat.le_refl _))
            have HN5 := Lib.hid (HNr.out.below hb)
            have HS5 := Lib.hid (HSr.out.below hb)
            have c0 := HN5.out.c0
            have c1 := HN5.out.c1
            clear hob hb
            go_wp2_with (go_at_call 12; refine (routeP_any _ n a len cap ls (c : Int) (c : Int) (by omega) HS5.out).mono ?_; rintro e v6 ⟨da, dl, dc, rfl, hod, hb⟩; have hdl : k2 = dl := (HK2.out.symm.trans hod.1); subst hdl; clear hod; have HBB := Lib.hid (below_up HBB.out hb (Nat.le_refl _)); clear hb)
            go_roundw
            case rel => exact ⟨c + 1, by omega, by go_num, HBB.out⟩
            case measure => simp [intOf]; omega
          have e2b : ((c : Int) != y) = true := by simp [e2]
          by_cases z1 : k1 = 0
          · subst z1
            go_wp2_with fail
            refine (routeP_any _ n a len cap ls x (c : Int) (by omega) HSr.out).mono ?_
            rintro e v5 ⟨ba, bl, bc, rfl, hob, hb⟩
            have hbl : 0 = bl := HK1.out.symm.trans hob.1
            subst hbl
            have HBB := Lib.hid (below_up HBB.out hb (Nat.le_refl _))
            have HN5 := Lib.hid (HNr.out.below hb)
            have HS5 := Lib.hid (HSr.out.below hb)
            have c0 := HN5.out.c0
            have c1 := HN5.out.c1
            clear hob hb
            go_wp2_with (go_at_call 12; refine (routeP_any _ n a len cap ls (c : Int) y (by omega) HS5.out).mono ?_; rintro e v6 ⟨da, dl, dc, rfl, hod, hb⟩; have hdl : k2 = dl := (HK2.out.symm.trans hod.1); subst hdl; clear hod; have HBB := Lib.hid (below_up HBB.out hb (Nat.le_refl _)); clear hb)
            go_roundw
            case rel => exact ⟨c + 1, by omega, by go_num, HBB.out⟩
            case measure => simp [intOf]; omega
          have z1i : (0 : Int) < (k1 : Int) := by omega
          by_cases z2 : k2 = 0
          · subst z2
            go_wp2_with fail
            refine (routeP_any _ n a len cap ls x (c : Int) (by omega) HSr.out).mono ?_
            rintro e v5 ⟨ba, bl, bc, rfl, hob, hb⟩
            have hbl : k1 = bl := HK1.out.symm.trans hob.1
            subst hbl
            have HBB := Lib.hid (below_up HBB.out hb (Nat.le_refl _))
            have HN5 := Lib.hid (HNr.out.below hb)
            have HS5 := Lib.hid (HSr.out.below hb)
            have c0 := HN5.out.c0
            have c1 := HN5.out.c1
            clear hob hb
            go_wp2_with (go_at_call 12; refine (routeP_any _ n a len cap ls (c : Int) y (by omega) HS5.out).mono ?_; rintro e v6 ⟨da, dl, dc, rfl, hod, hb⟩; have hdl : 0 = dl := (HK2.out.symm.trans hod.1); subst hdl; clear hod; have HBB := Lib.hid (below_up HBB.out hb (Nat.le_refl _)); clear hb)
            go_roundw
            case rel => exact ⟨c + 1, by omega, by go_num, HBB.out⟩
            case measure => simp [intOf]; omega
          have z2i : (0 : Int) < (k2 : Int) := by omega
          have htri := HTRI.out z1 z2
          have htri2 : ¬ ((k1 : Int) + (k2 : Int) < (pl : Int)) := by omega
          go_wp2_with fail
          refine (routeP_any _ n a len cap ls x (c : Int) (by omega) HSr.out).mono ?_
          rintro e v5 ⟨ba, bl, bc, rfl, hob, hb⟩
          have hbl : k1 = bl := HK1.out.symm.trans hob.1
          subst hbl
          have HBB := Lib.hid (below_up HBB.out hb (Nat.le_refl _))
          have HN5 := Lib.hid (HNr.out.below hb)
          have HS5 := Lib.hid (HSr.out.below hb)
          have c0 := HN5.out.c0
          have c1 := HN5.out.c1
          clear hob hb
          go_wp2_with (go_at_call 12; refine (routeP_any _ n a len cap ls (c : Int) y (by omega) HS5.out).mono ?_; rintro e v6 ⟨da, dl, dc, rfl, hod, hb⟩; have hdl : k2 = dl := (HK2.out.symm.trans hod.1); subst hdl; clear hod; have HBB := Lib.hid (below_up HBB.out hb (Nat.le_refl _)); clear hb)
          go_roundw
          case rel => exact ⟨c + 1, by omega, by go_num, HBB.out⟩
          case measure => simp [intOf]; omega
theorem lawNets_walk (a : Option Addr) (len cap : Nat) (z : List Int) (W : World) (w0 : IsRow .u8 W a len cap z) : Calls Try.prog 3 #[.slice a len cap] W (LawYes7 W) := by
  by_cases hl : len ≤ 1048576
  · exact nets_small W a len cap hl (code_of w0)
  · clear w0
    go_enter Try.func3, Try.ntmps3
    go_wp2_with (go_at_call 10; refine (big_yes _ a len cap hl).mono ?_; rintro e w0 ⟨rfl, rfl⟩)
    go_ret
    exact ⟨rfl, Below.refl _ _⟩
end Go.Proofs.Ytakhlbagjomgbaa
