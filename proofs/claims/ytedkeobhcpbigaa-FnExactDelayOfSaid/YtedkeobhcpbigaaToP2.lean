/- TwinsOf, the program's. -/
import Derived.Test.YtedkeobhcpbigaaToG
import Derived.Test.YtedkeobhcpbigaaMat
namespace Go.Proofs.Ytedkeobhcpbigaa
open Go.RowKit
/-- All rows have the length n. -/
def allLen (ms : List (List Int)) (n : Int) : Bool := (List.range ms.length).all fun i => decide (((row ms i).length : Int) = n)
theorem allLen_yes {ms : List (List Int)} {n : Int} (h : ∀ r, r < ms.length → ((row ms r).length : Int) = n) : allLen ms n = true := by
  unfold allLen
  rw [List.all_eq_true]
  intro r hr
  exact decide_eq_true (h r (List.mem_range.1 hr))
theorem allLen_no {ms : List (List Int)} {n : Int} {i : Nat} (hi : i < ms.length) (h : ¬ ((row ms i).length : Int) = n) : allLen ms n = false := by
  refine Bool.eq_false_iff.2 (fun hc => h ?_)
  unfold allLen at hc
  rw [List.all_eq_true] at hc
  exact of_decide_eq_true (hc i (List.mem_range.2 hi))
theorem allLen_even {ms : List (List Int)} : allLen ms ((row ms 0).length : Int) = evenB ms := by
  unfold allLen evenB
  congr 1
  funext i
  rw [decide_eq_decide]
  omega
set_option maxRecDepth 20000 in
set_option maxHeartbeats 1600000 in
theorem haveLen_any (W : World) (a : Option Addr) (len cap : Nat) (ms : List (List Int)) (n : Int) (hsm : SmallM ms) (hs : SeesM W a len ms) :
    Calls Try.prog 45 #[.slice a len cap, .int .i64 n] W fun e w' => e = .returned (.bool (allLen ms n)) ∧ Below W.heap.size W w' := by
  have HS := Lib.hid hs
  have HM := Lib.hid hsm
  have hlen := hs.1
  subst hlen
  have hl20 : ms.length ≤ 1048576 := by unfold SmallM at hsm; omega
  obtain ⟨r, hr⟩ : ∃ r, r = allLen ms n := ⟨_, rfl⟩
  have HR := Lib.hid hr
  rw [← hr]
  clear hs hsm hr
  go_enter Try.func45, Try.ntmps45
  go_wp2_with fail
  go_loopw [9, 6] (fun s _ wr => ∃ k : Nat, k ≤ ms.length ∧ s = .int .i64 k ∧ Hid (∀ i, i < k → ((row ms i).length : Int) = n) ∧ Below W.heap.size W wr) (fun s _ _ => ms.length - (intOf s).toNat)
  case atStart => exact ⟨0, Nat.zero_le _, rfl, Lib.hid (fun i hi => by omega), Below.refl _ _⟩
  case round =>
    obtain ⟨k, hk, rfl, HA, hb⟩ := hrel
    have HB := Lib.hid hb
    by_cases hlt : k < ms.length
    · obtain ⟨b, off, ar, cr, rfl, hbl, hrc, _, _, _⟩ := HS.out.2 k hlt
      obtain ⟨l, hll⟩ : ∃ l, l = (row ms k).length := ⟨_, rfl⟩
      have hl9 : l ≤ 1048576 := by rw [hll]; have := HM.out.row hlt; omega
      rw [← hll] at hrc
      have HLL := Lib.hid hll
      have k00 : (0 : Int) ≤ (k : Int) := by omega
      have k01 : (k : Int) < (ms.length : Int) := by omega
      have hc1 := (hb.cell (p := ⟨b, off + k, none⟩) hbl).trans hrc
      clear hb hrc hll
      by_cases he : (l : Int) = n
      · have HE := Lib.hid he
        subst he
        go_wp2_with fail
        go_roundw
        case rel => exact ⟨k + 1, by omega, by go_num, Lib.hid (fun i hi => by rcases Nat.lt_or_eq_of_le (Nat.lt_succ_iff.1 hi) with h | h; exact HA.out i h; subst h; rw [← HLL.out]), HB.out⟩
        case measure => simp [intOf]; omega
      · have heb : ((l : Int) == n) = false := by simp [he]
        have HE : Hid (r = false) := Lib.hid (HR.out.trans (allLen_no hlt (by rw [← HLL.out]; exact he)))
        go_wp2_with fail
        go_ret
        exact ⟨ret_bool HE.out.symm, HB.out⟩
    · obtain rfl : k = ms.length := by omega
      have HE : Hid (r = true) := Lib.hid (HR.out.trans (allLen_yes HA.out))
      clear hb
      go_wp2_with fail
      go_ret
      exact ⟨ret_bool HE.out.symm, HB.out⟩
theorem sameB_sym {ms : List (List Int)} {k q : Nat} : ∀ i, sameB ms k (q : Int) (i + 1) = (sameB ms k (q : Int) i && decide ((row ms i).getD k 0 = (row ms i).getD q 0)) := fun i => by rw [sameB, Int.toNat_natCast]
set_option maxRecDepth 20000 in
set_option maxHeartbeats 1600000 in
theorem areTw_any (W : World) (a : Option Addr) (len cap n : Nat) (ms : List (List Int)) (k q : Nat) (hl20 : len ≤ 1048576) (hw : ∀ i, i < ms.length → (row ms i).length = n) (hk : k < n) (hq : q < n) (hs : SeesM W a len ms) :
    Calls Try.prog 46 #[.slice a len cap, .int .i64 (k : Int), .int .i64 (q : Int)] W fun e w' => e = .returned (.bool (sameB ms k (q : Int) ms.length)) ∧ Below W.heap.size W w' := by
  have HS := Lib.hid hs
  have HW := Lib.hid hw
  have hlen := hs.1
  subst hlen
  obtain ⟨r, hr⟩ : ∃ r, r = sameB ms k (q : Int) ms.length := ⟨_, rfl⟩
  have HR := Lib.hid hr
  rw [← hr]
  clear hs hw hr
  go_enter Try.func46, Try.ntmps46
  go_wp2_with fail
  go_loopw [11, 8] (fun s _ wr => ∃ i : Nat, i ≤ ms.length ∧ s = .int .i64 i ∧ Hid (sameB ms k (q : Int) i = true) ∧ Below W.heap.size W wr) (fun s _ _ => ms.length - (intOf s).toNat)
  case atStart => exact ⟨0, Nat.zero_le _, rfl, Lib.hid rfl, Below.refl _ _⟩
  case round =>
    obtain ⟨i, hi, rfl, HA, hb⟩ := hrel
    have HB := Lib.hid hb
    by_cases hlt : i < ms.length
    · obtain ⟨b, off, ar, cr, rfl, hbl, hrc, _, _, hsr⟩ := HS.out.2 i hlt
      rw [HW.out i hlt] at hrc hsr
      obtain ⟨b2, o2, rfl, hb2, hc2⟩ := sees_cellAt hsr hk
      obtain ⟨x, hx⟩ : ∃ x, x = (row ms i).getD k 0 := ⟨_, rfl⟩
      obtain ⟨y, hy⟩ : ∃ y, y = (row ms i).getD q 0 := ⟨_, rfl⟩
      have hcx := hc2 k hk
      have hcy := hc2 q hq
      rw [← hx] at hcx
      rw [← hy] at hcy
      have hci := (hb.cell (p := ⟨b, off + i, none⟩) hbl).trans hrc
      have hcx := (hb.cell (p := ⟨b2, o2 + k, none⟩) hb2).trans hcx
      have hcy := (hb.cell (p := ⟨b2, o2 + q, none⟩) hb2).trans hcy
      have HNB : Hid (sameB ms k q (i + 1) = (sameB ms k q i && decide (x = y))) := Lib.hid (by rw [sameB_sym, ← hx, ← hy])
      have j0 : (0 : Int) ≤ (i : Int) := by omega
      have j1 : (i : Int) < (ms.length : Int) := by omega
      have j2 : (0 : Int) ≤ (k : Int) := by omega
      have j3 : (k : Int) < (n : Int) := by omega
      have j4 : (0 : Int) ≤ (q : Int) := by omega
      have j5 : (q : Int) < (n : Int) := by omega
      clear hb hx hy hc2 hsr hrc
      by_cases he : x = y
      · have HT2 : Hid (sameB ms k (q : Int) (i + 1) = true) := Lib.hid (by rw [HNB.out, decide_eq_true he, Bool.and_true]; exact HA.out)
        subst he
        go_wp2_with fail
        go_quiet (fail)
        go_wp2
        go_roundw
        case rel => exact ⟨i + 1, by omega, by go_num, HT2, below_drewN HB.out _⟩
        case measure => simp [intOf]; omega
      · have HT2 : Hid (r = false) := Lib.hid (by
          rw [HR.out]
          cases hss : sameB ms k q ms.length with
          | false => rfl
          | true =>
            have h := sameB_up (i := i + 1) ms.length (by omega) hss
            rw [HNB.out, decide_eq_false he, Bool.and_false] at h
            cases h)
        have heb : (x == y) = false := by simp [he]
        go_wp2_with fail
        go_quiet (fail)
        go_wp2
        go_ret
        exact ⟨ret_bool HT2.out.symm, below_drewN HB.out _⟩
    · obtain rfl : i = ms.length := by omega
      have HE : Hid (r = true) := Lib.hid (HR.out.trans HA.out)
      clear hb
      go_wp2_with fail
      go_ret
      exact ⟨ret_bool HE.out.symm, HB.out⟩
set_option maxRecDepth 20000 in
set_option maxHeartbeats 1600000 in
theorem twinP_any (W : World) (a : Option Addr) (len cap : Nat) (ms : List (List Int)) (link : Int) (hn : -9223372036854775808 ≤ link) (hm : link ≤ 9223372036854775807) (hsm : SmallM ms) (hs : SeesM W a len ms) :
    Calls Try.prog 16 #[.slice a len cap, .int .i64 link] W (Made .i64 3 (twinV ms link) W) := by
  have hlen := hs.1
  have HL := Lib.hid hlen
  have hl20 : len ≤ 1048576 := by unfold SmallM at hsm; omega
  have HM := Lib.hid hsm
  have HO0 := Lib.hid ((own_nil .i64 3 W).wide (lo2 := W.heap.size) (hi2 := (W.alloc (.cells #[] 3)).heap.size) (Nat.le_refl _) (by simp) (Nat.le_refl _))
  have HB0 := Lib.hid ((Below.refl W.heap.size W).alloc (Nat.le_refl _) (.cells #[] 3))
  obtain ⟨i0, hi, hz0, hz1, hz2⟩ := info_parts info_i64
  by_cases h0 : len = 0
  · have HE := Lib.hid (twinV_none (l := link) (hlen.trans h0))
    clear hlen hs hsm hl20
    subst h0
    go_enter Try.func16, Try.ntmps16
    go_wp2
    go_ret
    exact ⟨_, _, _, rfl, by rw [HE.out]; exact HO0.out, HB0.out⟩
  · obtain ⟨b, off, rfl⟩ : ∃ b off, a = some ⟨b, off, none⟩ := by
      obtain ⟨b, off, _, _, h1, _⟩ := hs.2 0 (by omega)
      exact ⟨b, off, h1⟩
    have HS := Lib.hid hs
    obtain ⟨hbl, ar0, cr0, hc0, _⟩ := seesM_rowAt hs (r := 0) (by omega)
    obtain ⟨n0, hn0⟩ : ∃ n0, n0 = (row ms 0).length := ⟨_, rfl⟩
    have hn20 : n0 ≤ 1048576 := by have := hsm.row (r := 0) (by omega); omega
    rw [← hn0, Nat.add_zero] at hc0
    have HN0 := Lib.hid hn0
    have HC0 := Lib.hid (And.intro hbl hc0)
    have hpos : 0 < ms.length := by omega
    have HP := Lib.hid hpos
    have h0i : ¬ (len : Int) = 0 := by omega
    have h0b : ((len : Int) == 0) = false := by simp; omega
    have k00 : (0 : Int) < (len : Int) := by omega
    have wn : IntKind.i64.wrap ((n0 : Int) - 1) = (n0 : Int) - 1 := IntWalk.i64_in _ (by omega)
    have hc0a := (HB0.out.cell (p := ⟨b, off, none⟩) hbl).trans hc0
    clear hs hsm hlen hpos
    cases h1 : inR link 0 ((n0 : Int) - 1)
    · have H1 := Lib.hid h1
      have HE := Lib.hid (twinV_out (ms := ms) (l := link) (by rw [← HN0.out]; exact h1))
      clear h1 hn0
      go_enter Try.func16, Try.ntmps16
      go_wp2_with (first | (go_at_call 43; refine (inRange_any _ _ _ _).mono ?_; rw [H1.out]; rintro e w' ⟨rfl, rfl⟩))
      go_ret
      exact ⟨_, _, _, rfl, by rw [HE.out]; exact HO0.out, HB0.out⟩
    · obtain ⟨l0, l1⟩ := inR_true.1 h1
      have H1 := Lib.hid h1
      obtain ⟨q, rfl⟩ : ∃ q : Nat, link = (q : Int) := ⟨link.toNat, by omega⟩
      have hq : q < n0 := by omega
      have hae : allLen ms (n0 : Int) = evenB ms := by rw [hn0]; exact allLen_even
      cases hev : evenB ms
      · rw [hev] at hae
        have HAE := Lib.hid hae
        have HE := Lib.hid (twinV_uneven (l := (q : Int)) hev)
        clear h1 hn0 hae hev
        go_enter Try.func16, Try.ntmps16
        go_wp2_with (first
          | (go_at_call 43; refine (inRange_any _ _ _ _).mono ?_; rw [H1.out]; rintro e w' ⟨rfl, rfl⟩)
          | (go_at_call 45; refine (haveLen_any _ (some ⟨b, off, none⟩) len cap ms (n0 : Int) HM.out (HS.out.below HB0.out)).mono ?_; rw [HAE.out]; rintro e w1 ⟨rfl, hb1⟩; have HO1 := Lib.hid (HO0.out.below hb1); have hsz := hb1.size; have HB1 := Lib.hid (below_up HB0.out hb1 (Nat.le_refl _)); clear hb1))
        go_ret
        exact ⟨_, _, _, rfl, by rw [HE.out]; exact HO1.out.wide (Nat.le_refl _) hsz (Nat.le_refl _), HB1.out⟩
      · rw [hev] at hae
        have HAE := Lib.hid hae
        have HWD : Hid (∀ i, i < ms.length → (row ms i).length = n0) := Lib.hid (fun i hi => by
          have h := hev
          unfold evenB at h
          rw [List.all_eq_true] at h
          rw [hn0]
          exact of_decide_eq_true (h i (List.mem_range.2 hi)))
        have HEV := Lib.hid (twinV_is HP.out (by rw [← HN0.out]; exact H1.out) hev)
        rw [← hn0] at HEV
        clear h1 hn0 hae hev
        go_enter Try.func16, Try.ntmps16
        go_wp2_with (first
          | (go_at_call 43; refine (inRange_any _ _ _ _).mono ?_; rw [H1.out]; rintro e w' ⟨rfl, rfl⟩)
          | (go_at_call 45; refine (haveLen_any _ (some ⟨b, off, none⟩) len cap ms (n0 : Int) HM.out (HS.out.below HB0.out)).mono ?_; rw [HAE.out]; rintro e w1 ⟨rfl, hb1⟩; have hc0a := (hb1.cell (p := ⟨b, off, none⟩) (Nat.lt_of_lt_of_le HC0.out.1 HB0.out.size)).trans hc0a; have HO1 := Lib.hid ((HO0.out.below hb1).wide (Nat.le_refl _) hb1.size (Nat.le_refl _)); have hsz := hb1.size; have HB1 := Lib.hid (below_up HB0.out hb1 (Nat.le_refl _)); clear hb1))
        clear hc0a hc0
        go_loopw [35, 5, 6] (fun s v _ wr => ∃ (k l' : Nat) (a' : Option Addr) (c' : Nat), k ≤ n0 ∧ l' ≤ k ∧ s = .int .i64 k ∧ v = .slice a' l' c' ∧ Own .i64 3 wr W.heap.size wr.heap.size a' l' c' (twinK ms q k) ∧ Below W.heap.size W wr) (fun s _ _ _ => n0 - (intOf s).toNat)
        case atStart => exact ⟨0, 0, _, _, Nat.zero_le _, Nat.zero_le _, rfl, rfl, HO1.out, HB1.out⟩
        case round =>
          obtain ⟨k, l', a', c', hk, hl', rfl, rfl, ho, hb⟩ := hrel
          have HO2 := Lib.hid ho
          have HB2 := Lib.hid hb
          clear ho hb
          by_cases hkn : k < n0
          · have HKW : Hid ((Lit.int .i64 (k : Int)).wf = true) := Lib.hid (WalkArith.wf_i64 (by omega))
            by_cases hkq : k = q
            · have HN : Hid (twinK ms q (k + 1) = twinK ms q k) := Lib.hid (by rw [twinK, if_neg]; unfold twinB; rw [hkq]; simp)
              have hki : (k : Int) = (q : Int) := by omega
              subst hkq
              go_wp2_with fail
              go_roundw
              case rel => exact ⟨k + 1, l', _, _, by omega, by omega, by go_num, rfl, by rw [HN.out]; exact HO2.out, HB2.out⟩
              case measure => simp [intOf]; omega
            · obtain ⟨t, ht⟩ : ∃ t, sameB ms k (q : Int) ms.length = t := ⟨_, rfl⟩
              have HT := Lib.hid ht
              have HN : Hid (twinK ms q (k + 1) = if t = true then twinK ms q k ++ [(k : Int)] else twinK ms q k) := Lib.hid (by
                rw [twinK]
                unfold twinB
                rw [decide_eq_false (by omega : ¬ (k : Int) = (q : Int)), ht]
                rfl)
              have hki : ¬ (k : Int) = (q : Int) := by omega
              have hkb : ((k : Int) == (q : Int)) = false := by simp; omega
              clear ht
              cases t
              · go_wp2_with (first
                  | (go_at_call 46; refine (areTw_any _ (some ⟨b, off, none⟩) len cap n0 ms k q hl20 HWD.out hkn hq (HS.out.below HB2.out)).mono ?_; rw [HT.out]; rintro e w3 ⟨rfl, hb3⟩; have HO3 := Lib.hid (HO2.out.below hb3); have hsz3 := hb3.size; have HB3 := Lib.hid (below_up HB2.out hb3 (Nat.le_refl _)); clear hb3))
                go_roundw
                case rel => exact ⟨k + 1, l', _, _, by omega, by omega, by go_num, rfl, by rw [HN.out]; exact HO3.out.wide (Nat.le_refl _) (by omega) (Nat.le_refl _), HB3.out⟩
                case measure => simp [intOf]; omega
              · go_wp2_with (first
                  | (go_at_call 46; refine (areTw_any _ (some ⟨b, off, none⟩) len cap n0 ms k q hl20 HWD.out hkn hq (HS.out.below HB2.out)).mono ?_; rw [HT.out]; rintro e w3 ⟨rfl, hb3⟩; have HO3 := Lib.hid (HO2.out.below hb3); have hsz3 := hb3.size; have HB3 := Lib.hid (below_up HB2.out hb3 (Nat.le_refl _)); clear hb3)
                  | (at_builtin; refine wp_append_sees rfl _ _ 25 rfl 3 i0 .i64 8 Try.underlying25 hi hz0 hz1 hz2 _ _ _ _ rfl _ _ (HO3.out.alloc _) _ _ _ _ rfl (sees_one (x := (k : Int)) HKW.out _ _) (by unfold maxLen; omega) (by omega) (by have := HB3.out.size; simp; omega) ?_; intro b4 len4 cap4 w4 hlen4 ho4 hm4; subst hlen4; have HO4 := Lib.hid ho4; have HM4 := Lib.hid hm4; clear ho4 hm4))
                go_roundw
                case rel => exact ⟨k + 1, l' + 1, _, _, by omega, by omega, by go_num, rfl, by rw [HN.out]; exact HO4.out, below_moved (HB3.out.alloc HB3.out.size _) HM4.out (Nat.le_refl _) (Nat.le_refl _)⟩
                case measure => simp [intOf]; omega
          · obtain rfl : k = n0 := by omega
            go_wp2
            go_ret
            exact ⟨_, _, _, rfl, by rw [HEV.out]; exact HO2.out, HB2.out⟩
end Go.Proofs.Ytedkeobhcpbigaa
