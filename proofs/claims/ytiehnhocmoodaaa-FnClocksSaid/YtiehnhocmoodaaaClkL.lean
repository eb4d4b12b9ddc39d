/- The walk of the law on clocks. -/
import Derived.Test.YtiehnhocmoodaaaLawIv
import Derived.Test.YtiehnhocmoodaaaDraw9
import Derived.Test.YtiehnhocmoodaaaBig
import Derived.Test.YtiehnhocmoodaaaSame
namespace Go.Proofs.Ytiehnhocmoodaaa
open Go.RowKit
/-- A time lies in a valid interval. -/
def atB (p : Int × Int) (t : Int) : Bool := isV p.1 p.2 && (decide (p.1 ≤ t) && decide (t ≤ p.2))
def inK (xs : List (Int × Int)) (t : Int) (i : Nat) : Bool := decide (0 < xs.length) && (List.range i).all (fun r => atB (xs.getD r (0, 0)) t)
theorem inK_zero (xs : List (Int × Int)) (t : Int) : inK xs t 0 = decide (0 < xs.length) := by simp [inK]
theorem inK_next (xs : List (Int × Int)) (t : Int) (i : Nat) : inK xs t (i + 1) = (inK xs t i && atB (xs.getD i (0, 0)) t) := by
  unfold inK
  rw [List.range_succ, List.all_append]
  simp [Bool.and_assoc]
theorem allK_isV {xs : List (Int × Int)} : ∀ {k : Nat} {p q : Int}, k ≤ xs.length → allK xs k = some (p, q) → isV p q = true
  | 0, p, q, _, h => by
    simp only [allK, List.take_zero, List.foldl_nil, Option.some.injEq, Prod.mk.injEq] at h
    rw [← h.1, ← h.2]
    decide
  | k + 1, p, q, hk, h => by
    rw [allK_next (by omega)] at h
    cases hq : allK xs k with
    | none => rw [hq] at h; cases h
    | some u =>
      rw [hq] at h
      simp only [stepV] at h
      split at h
      · rename_i hm
        simp only [Option.some.injEq, Prod.mk.injEq] at h
        unfold meetOk at hm
        simp only [Bool.and_eq_true] at hm
        rw [← h.1, ← h.2]
        exact hm.2.2
      · cases h
/-- A time is in what all have in common if it is in each of them. -/
theorem allK_in {xs : List (Int × Int)} {t : Int} (h0 : -100000 ≤ t) (h1 : t ≤ 100000) : ∀ {k : Nat}, k ≤ xs.length → (((∃ p q, allK xs k = some (p, q) ∧ p ≤ t ∧ t ≤ q)) ↔ ∀ r, r < k → atB (xs.getD r (0, 0)) t = true)
  | 0, _ => ⟨fun _ r hr => by omega, fun _ => ⟨-100000, 100000, rfl, h0, h1⟩⟩
  | k + 1, hk => by
    have ih := allK_in (xs := xs) h0 h1 (k := k) (by omega)
    rw [allK_next (by omega)]
    obtain ⟨c, d, hcd⟩ : ∃ c d, xs.getD k (0, 0) = (c, d) := ⟨_, _, rfl⟩
    constructor
    · rintro ⟨p, q, he, hp, hq⟩
      cases hu : allK xs k with
      | none => rw [hu] at he; cases he
      | some u =>
        obtain ⟨u1, u2⟩ := u
        rw [hu, hcd] at he
        cases hm : meetOk u1 u2 c d
        · rw [stepV_no hm] at he; cases he
        · simp only [stepV, hm, if_true, Option.some.injEq, Prod.mk.injEq] at he
          have hm2 := hm
          unfold meetOk at hm2
          simp only [Bool.and_eq_true] at hm2
          have e1 := he.1
          have e2 := he.2
          unfold maxV at e1
          unfold minV at e2
          have hmx : u1 ≤ t ∧ c ≤ t := by split at e1 <;> omega
          have hmn : t ≤ u2 ∧ t ≤ d := by split at e2 <;> omega
          have hall := ih.1 ⟨u1, u2, hu, hmx.1, hmn.1⟩
          intro r hr
          by_cases hrk : r < k
          · exact hall r hrk
          · obtain rfl : r = k := by omega
            rw [hcd]
            simp [atB, hm2.2.1, hmx.2, hmn.2]
    · intro hall
      obtain ⟨u1, u2, hu, hu1, hu2⟩ := ih.2 (fun r hr => hall r (by omega))
      have hk2 := hall k (by omega)
      rw [hcd] at hk2
      simp only [atB, Bool.and_eq_true, decide_eq_true_eq] at hk2
      have hv := allK_isV (by omega) hu
      have b1 := isV_true.1 hv
      have b2 := isV_true.1 hk2.1
      have e1 : maxV u1 c = if u1 < c then c else u1 := rfl
      have e2 : minV u2 d = if d < u2 then d else u2 := rfl
      have hm3 : maxV u1 c ≤ t ∧ -100000 ≤ maxV u1 c := by rw [e1]; split <;> omega
      have hm4 : t ≤ minV u2 d ∧ minV u2 d ≤ 100000 := by rw [e2]; split <;> omega
      have hm : meetOk u1 u2 c d = true := by
        unfold meetOk
        rw [hv, hk2.1, isV_true.2 ⟨hm3.2, hm4.2, by omega⟩]
        rfl
      refine ⟨maxV u1 c, minV u2 d, ?_, hm3.1, hm4.1⟩
      rw [hu, hcd]
      simp [stepV, hm]
theorem inK_all {xs : List (Int × Int)} {t : Int} (h0 : -100000 ≤ t) (h1 : t ≤ 100000) : inK xs t xs.length = (allOk xs && (decide (allLo xs ≤ t) && decide (t ≤ allHi xs))) := by
  by_cases hl : xs.length = 0
  · have := all_empty hl
    rw [this.2.2]
    simp [inK, hl]
  · have hin := allK_in (xs := xs) h0 h1 (Nat.le_refl _)
    cases hq : allK xs xs.length with
    | none =>
      rw [(all_stop hq).2.2, Bool.false_and]
      cases hb : inK xs t xs.length
      · rfl
      · exfalso
        unfold inK at hb
        simp only [Bool.and_eq_true, List.all_eq_true, List.mem_range] at hb
        obtain ⟨p, q, he, _⟩ := hin.2 hb.2
        rw [hq] at he
        cases he
    | some u =>
      obtain ⟨p, q⟩ := u
      obtain ⟨e1, e2, e3⟩ := all_yes hl hq
      rw [e1, e2, e3, Bool.true_and]
      cases hb : inK xs t xs.length
      · by_cases hp : p ≤ t
        · by_cases hq2 : t ≤ q
          · exfalso
            have h := hin.1 ⟨p, q, hq, hp, hq2⟩
            have : inK xs t xs.length = true := by
              unfold inK
              rw [decide_eq_true (by omega), Bool.true_and, List.all_eq_true]
              exact fun r hr => h r (List.mem_range.1 hr)
            rw [this] at hb
            cases hb
          · simp [hq2]
        · simp [hp]
      · unfold inK at hb
        simp only [Bool.and_eq_true, List.all_eq_true, List.mem_range] at hb
        obtain ⟨p2, q2, he, h2, h3⟩ := hin.2 hb.2
        rw [hq] at he
        simp only [Option.some.injEq, Prod.mk.injEq] at he
        rw [he.1, he.2]
        simp [h2, h3]
set_option maxRecDepth 20000 in
set_option maxHeartbeats 12800000 in
theorem clocks_small (W : World) (a0 : Option Addr) (len0 cap0 : Nat) (hl : len0 ≤ 1048576) (hc : CodeAt W W.heap.size a0 len0) : Calls Try.prog 3 #[.slice a0 len0 cap0] W (LawTrue W) := by
  have HC := Lib.hid hc
  clear hc
  go_enter Try.func3, Try.ntmps3
  go_wp2_with fail
  go_at_call 10
  refine (big_no _ a0 len0 cap0 hl).mono ?_
  rintro e w0 ⟨rfl, rfl⟩
  go_wp2_with fail
  go_at_call 11
  refine (at_any _ W.heap.size a0 len0 cap0 0 hl (by decide) (by decide) HC.out).mono ?_
  rintro e w0 ⟨z0, hz0, rfl, rfl⟩
  go_wp2_with fail
  go_at_call 11
  refine (at_any _ W.heap.size a0 len0 cap0 1 hl (by decide) (by decide) HC.out).mono ?_
  rintro e w0 ⟨z1, hz1, rfl, rfl⟩
  go_wp2_with fail
  go_at_call 11
  refine (at_any _ W.heap.size a0 len0 cap0 2 hl (by decide) (by decide) HC.out).mono ?_
  rintro e w0 ⟨z2, hz2, rfl, rfl⟩
  go_wp2_with fail
  go_at_call 11
  refine (at_any _ W.heap.size a0 len0 cap0 3 hl (by decide) (by decide) HC.out).mono ?_
  rintro e w0 ⟨z3, hz3, rfl, rfl⟩
  go_wp2_with fail
  go_at_call 11
  refine (at_any _ W.heap.size a0 len0 cap0 4 hl (by decide) (by decide) HC.out).mono ?_
  rintro e w0 ⟨z4, hz4, rfl, rfl⟩
  go_wp2_with fail
  obtain ⟨s, hs⟩ : ∃ s, 300 + z0 = s := ⟨_, rfl⟩
  obtain ⟨th, hth⟩ : ∃ s, z1 % 50 = s := ⟨_, rfl⟩
  obtain ⟨bk, hbk⟩ : ∃ s, z2 % 50 = s := ⟨_, rfl⟩
  obtain ⟨of, hof⟩ : ∃ s, z3 % 200 - 100 = s := ⟨_, rfl⟩
  obtain ⟨st, hst⟩ : ∃ s, z4 % 20 = s := ⟨_, rfl⟩
  obtain ⟨r, hr⟩ : ∃ r, s + th + of = r := ⟨_, rfl⟩
  obtain ⟨b, hb⟩ : ∃ b, r + st = b := ⟨_, rfl⟩
  obtain ⟨h, hh⟩ : ∃ h, b - of + bk = h := ⟨_, rfl⟩
  have bs : 300 ≤ s ∧ s ≤ 555 := by omega
  have bth : 0 ≤ th ∧ th ≤ 49 := by omega
  have bbk : 0 ≤ bk ∧ bk ≤ 49 := by omega
  have bof : -100 ≤ of ∧ of ≤ 99 := by omega
  have bst : 0 ≤ st ∧ st ≤ 19 := by omega
  rw [hs, hth, hbk, hof, hst, hr, hb, hh]
  have hOK : offOk s r b h = true := by
    unfold offOk
    rw [inR_true.2 (by omega), inR_true.2 (by omega), inR_true.2 (by omega), inR_true.2 (by omega), decide_eq_true (by omega)]
    rfl
  obtain ⟨lo, hlo⟩ : ∃ q, of - bk = q := ⟨_, rfl⟩
  obtain ⟨hi, hhi⟩ : ∃ q, th + of = q := ⟨_, rfl⟩
  obtain ⟨tb, htb⟩ : ∃ q, th + bk = q := ⟨_, rfl⟩
  have HLO : Hid (offLo s r b h = lo) := Lib.hid (by rw [(off_yes hOK).1]; omega)
  have HHI : Hid (offHi s r b h = hi) := Lib.hid (by rw [(off_yes hOK).2]; omega)
  have HOK := Lib.hid hOK
  have hV : isV lo hi = true := isV_true.2 (by omega)
  have HW : Hid (widV lo hi = tb) := Lib.hid (by unfold widV; rw [if_pos hV]; omega)
  have hmx : maxV 0 (r - s - hi) = 0 := by unfold maxV; rw [if_neg (by omega)]
  have hONE : oneOk s r lo hi = true := by
    unfold oneOk
    rw [inR_true.2 (by omega), inR_true.2 (by omega), hV, hmx, isV_true.2 (by omega)]
    rfl
  have HYL : Hid (oneLo s r lo hi = 0) := Lib.hid (by rw [(one_yes hONE).1]; exact hmx)
  have HYH : Hid (oneHi s r lo hi = tb) := Lib.hid (by rw [(one_yes hONE).2]; omega)
  have HONE := Lib.hid hONE
  have i0 : IsI64 s := ⟨by omega, by omega⟩
  have i1 : IsI64 r := ⟨by omega, by omega⟩
  have i2 : IsI64 b := ⟨by omega, by omega⟩
  have i3 : IsI64 h := ⟨by omega, by omega⟩
  have i4 : IsI64 lo := ⟨by omega, by omega⟩
  have i5 : IsI64 hi := ⟨by omega, by omega⟩
  have HI := Lib.hid (And.intro i0 (And.intro i1 (And.intro i2 (And.intro i3 (And.intro i4 i5)))))
  have g1 : ¬ of < lo := by omega
  have g2 : ¬ hi < of := by omega
  have g3 : ¬ th < 0 := by omega
  have g4 : ¬ tb < th := by omega
  have g5 : IntKind.i64.wrap (th + bk) = tb := (IntWalk.i64_in _ (by omega)).trans htb
  clear hs hth hbk hof hst hr hb hh hOK hlo hhi hV hmx hONE i0 i1 i2 i3 i4 i5 hz0 hz1 hz2 hz3 hz4 bs bth bbk bof bst htb
  go_at_call 12
  refine (offP_any s r b h _ HI.out.1 HI.out.2.1 HI.out.2.2.1 HI.out.2.2.2.1).mono ?_
  rw [HLO.out, HHI.out, HOK.out]
  rintro e w1 ⟨rfl, hb1⟩
  have HB1 := Lib.hid hb1
  clear hb1
  go_wp2_with fail
  go_at_call 13
  refine (widP_any lo hi _ HI.out.2.2.2.2.1 HI.out.2.2.2.2.2).mono ?_
  rw [HW.out]
  rintro e w2 ⟨rfl, hb2⟩
  have HX2 := Lib.hid ((pair_new w1 lo hi 26).below hb2)
  have HB2 := Lib.hid (below_up (below_allocW HB1.out _) hb2 (Nat.le_refl _))
  have x0 := HX2.out.c0
  have x1 := HX2.out.c1
  clear hb2
  go_wp2_with fail
  go_at_call 14
  refine (oneP_any s r lo hi _ HI.out.1 HI.out.2.1 HI.out.2.2.2.2.1 HI.out.2.2.2.2.2).mono ?_
  rw [HYL.out, HYH.out, HONE.out]
  rintro e w3 ⟨rfl, hb3⟩
  have HB3 := Lib.hid (below_allocW (below_up HB2.out hb3 (Nat.le_refl _)) (.cells #[.int .i64 0, .int .i64 tb] 26))
  clear hb3 x0 x1
  go_wp2_with fail
  go_at_call 15
  refine (drawAll_any _ a0 len0 cap0 hl ((HC.out.below HB3.out).mono HB3.out.size)).mono ?_
  rintro e w4 ⟨xs, la, ll, lc, hll, rfl, hol, hb4⟩
  have HB4 := Lib.hid (below_up HB3.out hb4 (Nat.le_refl _))
  have HS4 := Lib.hid hol.sees
  clear hol hb4
  go_wp2_with fail
  go_at_call 16
  refine (allP_any w4 la ll lc xs (by omega) HS4.out).mono ?_
  obtain ⟨zl, hzl⟩ : ∃ q, allLo xs = q := ⟨_, rfl⟩
  obtain ⟨zh, hzh⟩ : ∃ q, allHi xs = q := ⟨_, rfl⟩
  obtain ⟨zk, hzk⟩ : ∃ q, allOk xs = q := ⟨_, rfl⟩
  rw [hzl, hzh, hzk]
  have HALL : Hid (∀ t : Int, -15 ≤ t → t ≤ 65 → inK xs t ll = (zk && (decide (zl ≤ t) && decide (t ≤ zh)))) := Lib.hid (fun t h0 h1 => by rw [← hzl, ← hzh, ← hzk, ← HS4.out.1]; exact inK_all (by omega) (by omega))
  rintro e w5 ⟨rfl, hb5⟩
  obtain ⟨V, hV⟩ : ∃ V, V = w5.alloc (.cells #[.int .i64 zl, .int .i64 zh] 26) := ⟨_, rfl⟩
  have HBV := Lib.hid (show Below W.heap.size W V by rw [hV]; exact below_allocW (below_up HB4.out hb5 (Nat.le_refl _)) _)
  have HZV := Lib.hid (show PairAt V w5.heap.size zl zh by rw [hV]; exact pair_new _ _ _ _)
  have HSV := Lib.hid (show SeesV V la ll xs by rw [hV]; exact (HS4.out.below hb5).alloc _)
  have HLX := Lib.hid HS4.out.1
  clear hb5 hzl hzh hzk
  go_wp2_with fail
  rw [← hV]
  clear hV
  clear g1 g2 g3 g4 g5
  go_loopw [18, 19, 20] (fun t _ _ wr => ∃ tt : Int, -15 ≤ tt ∧ tt ≤ 66 ∧ t = .int .i64 tt ∧ Below V.heap.size V wr) (fun t _ _ _ => (66 - intOf t).toNat)
  case atStart => exact ⟨-15, by decide, by decide, rfl, Below.refl _ _⟩
  case round =>
    obtain ⟨tt, ht0, ht1, rfl, hb⟩ := hrel
    obtain ⟨Vr, rfl⟩ : ∃ Vr, Vr = wr := ⟨_, rfl⟩
    have HBt := Lib.hid hb
    clear hb
    by_cases hle : tt ≤ 65
    · go_wp2_with fail
      go_loopw [19, 20] (fun v i wr => ∃ (k : Nat) (b : Bool), k ≤ ll ∧ i = .int .i64 k ∧ v = .bool b ∧ Hid (b = inK xs tt k) ∧ Below V.heap.size V wr) (fun _ i _ => ll - (intOf i).toNat)
      case atStart => exact ⟨0, _, Nat.zero_le _, rfl, rfl, Lib.hid (by rw [inK_zero, HLX.out]), HBt.out⟩
      case round =>
        clear HBt
        obtain ⟨k, b, hk, rfl, rfl, HBK, hb⟩ := hrel
        have HB := Lib.hid hb
        have HZr := Lib.hid (HZV.out.below hb)
        by_cases hlt : k < ll
        · obtain ⟨b2, o2, rfl, hb20, hc0, hc1⟩ := (HSV.out.below hb).spot hlt
          obtain ⟨c, d, hcd⟩ : ∃ c d, xs.getD k (0, 0) = (c, d) := ⟨_, _, rfl⟩
          have hfit := HSV.out.2.1 _ (getV_mem (l := xs) (j := k) (by rw [HLX.out]; exact hlt))
          rw [hcd] at hc0 hc1 hfit
          have HCI := Lib.hid (And.intro (bounds_i64 hfit.1) (bounds_i64 hfit.2))
          have HC0 := Lib.hid hc0
          have HC1 := Lib.hid hc1
          have i0k : (0 : Int) ≤ (k : Int) := by omega
          have i1k : (k : Int) < (ll : Int) := by omega
          cases b
          · have HN : Hid (false = inK xs tt (k + 1)) := Lib.hid (by rw [inK_next, ← HBK.out, Bool.false_and])
            clear hcd hfit hb
            go_wp2
            go_roundw
            case rel => exact ⟨k + 1, _, hlt, by go_num, rfl, HN, HB.out⟩
            case measure => simp [intOf]; omega
          · cases hv : isV c d
            · have HV := Lib.hid hv
              have HN : Hid (false = inK xs tt (k + 1)) := Lib.hid (by rw [inK_next, ← HBK.out, hcd]; simp [atB, hv])
              clear hcd hfit hb hv
              go_wp2_with (go_at_call 17; refine (ivP_any c d _ HCI.out.1 HCI.out.2).mono ?_; rw [HV.out]; rintro e w6 ⟨rfl, hb6⟩; have HB6 := Lib.hid (below_up HB.out hb6 (by have := HB.out.size; omega)); clear hb6)
              go_roundw
              case rel => exact ⟨k + 1, _, hlt, by go_num, rfl, HN, HB6.out⟩
              case measure => simp [intOf]; omega
            · have HV := Lib.hid hv
              have HN : Hid ((decide (c ≤ tt) && decide (tt ≤ d)) = inK xs tt (k + 1)) := Lib.hid (by rw [inK_next, ← HBK.out, hcd]; simp [atB, hv])
              clear hcd hfit hb hv
              by_cases h1 : c ≤ tt
              · go_wp2_with (go_at_call 17; refine (ivP_any c d _ HCI.out.1 HCI.out.2).mono ?_; rw [HV.out]; rintro e w6 ⟨rfl, hb6⟩; have HB6 := Lib.hid (below_up HB.out hb6 (by have := HB.out.size; omega)); have hc0 := (hb6.cell (p := ⟨b2, o2 + k * 2, none⟩) hb20).trans HC0.out; have hc1 := (hb6.cell (p := ⟨b2, o2 + k * 2 + 1, none⟩) hb20).trans HC1.out; clear hb6)
                go_roundw
                case rel => exact ⟨k + 1, _, hlt, by go_num, rfl, Lib.hid (by rw [← HN.out]; simp [h1]), HB6.out⟩
                case measure => simp [intOf]; omega
              · go_wp2_with (go_at_call 17; refine (ivP_any c d _ HCI.out.1 HCI.out.2).mono ?_; rw [HV.out]; rintro e w6 ⟨rfl, hb6⟩; have HB6 := Lib.hid (below_up HB.out hb6 (by have := HB.out.size; omega)); have hc0 := (hb6.cell (p := ⟨b2, o2 + k * 2, none⟩) hb20).trans HC0.out; have hc1 := (hb6.cell (p := ⟨b2, o2 + k * 2 + 1, none⟩) hb20).trans HC1.out; clear hb6)
                go_roundw
                case rel => exact ⟨k + 1, _, hlt, by go_num, rfl, Lib.hid (by rw [← HN.out]; simp; omega), HB6.out⟩
                case measure => simp [intOf]; omega
        · obtain rfl : k = ll := by omega
          have he := HBK.out.trans (HALL.out tt ht0 hle)
          have z0 := HZr.out.c0
          have z1 := HZr.out.c1
          clear hb
          cases zk
          · rw [Bool.false_and] at he
            subst he
            go_wp2
            go_roundw
            case rel => exact ⟨tt + 1, by omega, by omega, by go_num, HB.out⟩
            case measure => simp [intOf]; omega
          · rw [Bool.true_and] at he
            by_cases h1 : zl ≤ tt
            · rw [decide_eq_true h1, Bool.true_and] at he
              by_cases h2 : tt ≤ zh
              · rw [decide_eq_true h2] at he
                subst he
                go_wp2
                go_roundw
                case rel => exact ⟨tt + 1, by omega, by omega, by go_num, HB.out⟩
                case measure => simp [intOf]; omega
              · rw [decide_eq_false h2] at he
                subst he
                have h3 : zh < tt := by omega
                go_wp2
                go_roundw
                case rel => exact ⟨tt + 1, by omega, by omega, by go_num, HB.out⟩
                case measure => simp [intOf]; omega
            · rw [decide_eq_false h1, Bool.false_and] at he
              subst he
              have h3 : tt < zl := by omega
              go_wp2
              go_roundw
              case rel => exact ⟨tt + 1, by omega, by omega, by go_num, HB.out⟩
              case measure => simp [intOf]; omega
    · go_wp2_with fail
      go_ret
      exact ⟨rfl, HBV.out.trans (HBt.out.mono HBV.out.size)⟩
set_option maxRecDepth 20000 in
theorem lawClocks_walk (a : Option Addr) (len cap : Nat) (z : List Int) (W : World) (w0 : IsRow .u8 W a len cap z) : Calls Try.prog 3 #[.slice a len cap] W (LawTrue W) := by
  by_cases hl : len ≤ 1048576
  · exact clocks_small W a len cap hl (code_of w0)
  · clear w0
    go_enter Try.func3, Try.ntmps3
    go_wp2_with (go_at_call 10; refine (big_yes _ a len cap hl).mono ?_; rintro e w0 ⟨rfl, rfl⟩)
    go_ret
    exact ⟨rfl, Below.refl _ _⟩
end Go.Proofs.Ytiehnhocmoodaaa
