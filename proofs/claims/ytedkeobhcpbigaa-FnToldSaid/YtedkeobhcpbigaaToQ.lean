/- TwinsOf, the model's. -/
import Derived.Test.YtedkeobhcpbigaaToM
namespace Go.Proofs.Ytedkeobhcpbigaa
open Go.RowKit
theorem sameB_up {ms : List (List Int)} {k : Nat} {l : Int} {i : Nat} : ∀ j, i ≤ j → sameB ms k l j = true → sameB ms k l i = true
  | 0, h, hs => by obtain rfl : i = 0 := by omega
                   exact hs
  | j + 1, h, hs => by
    rcases Nat.lt_or_eq_of_le h with h1 | h1
    · rw [sameB, Bool.and_eq_true] at hs
      exact sameB_up j (by omega) hs.1
    · subst h1
      exact hs
theorem evenB_yes {ms : List (List Int)} (h : ∀ r, r < ms.length → (row ms r).length = (row ms 0).length) : evenB ms = true := by
  unfold evenB
  rw [List.all_eq_true]
  intro r hr
  exact decide_eq_true (h r (List.mem_range.1 hr))
theorem evenB_no {ms : List (List Int)} {i : Nat} (hi : i < ms.length) (h : ¬ (row ms i).length = (row ms 0).length) : evenB ms = false := by
  refine Bool.eq_false_iff.2 (fun hc => h ?_)
  unfold evenB at hc
  rw [List.all_eq_true] at hc
  exact of_decide_eq_true (hc i (List.mem_range.2 hi))
theorem twinV_none {ms : List (List Int)} {l : Int} (h : ms.length = 0) : twinV ms l = [] := by unfold twinV; rw [if_neg (by omega)]
theorem twinV_out {ms : List (List Int)} {l : Int} (h : inR l 0 (((row ms 0).length : Int) - 1) = false) : twinV ms l = [] := by unfold twinV; rw [if_neg (by rw [h]; simp)]
theorem twinV_uneven {ms : List (List Int)} {l : Int} (h : evenB ms = false) : twinV ms l = [] := by unfold twinV; rw [if_neg (by rw [h]; simp)]
theorem twinV_is {ms : List (List Int)} {l : Int} (h0 : 0 < ms.length) (h1 : inR l 0 (((row ms 0).length : Int) - 1) = true) (h2 : evenB ms = true) : twinV ms l = twinK ms l (row ms 0).length := by unfold twinV; rw [if_pos ⟨h0, h1, h2⟩]
theorem twinK_len (ms : List (List Int)) (l : Int) : ∀ k, (twinK ms l k).length ≤ k
  | 0 => Nat.le_refl _
  | k + 1 => by
    have := twinK_len ms l k
    rw [twinK]
    split
    · rw [List.length_append]; simp; omega
    · omega
theorem seesM_rowAt {w : World} {b off len : Nat} {ms : List (List Int)} (h : SeesM w (some ⟨b, off, none⟩) len ms) {r : Nat} (hr : r < len) :
    b < w.heap.size ∧ ∃ ar cr, w.cell? ⟨b, off + r, none⟩ = some (.slice ar (row ms r).length cr) ∧ Sees .i64 w ar (row ms r).length (row ms r) := by
  obtain ⟨b2, off2, ar, cr, h1, h2, h3, _, _, h6⟩ := h.2 r hr
  cases h1
  exact ⟨h2, ar, cr, h3, h6⟩
/-- One cell of a row. -/
theorem sees_cellAt {w : World} {a : Option Addr} {n : Nat} {zs : List Int} (h : Sees .i64 w a n zs) {k : Nat} (hk : k < n) :
    ∃ b o, a = some ⟨b, o, none⟩ ∧ b < w.heap.size ∧ ∀ j, j < n → w.cell? ⟨b, o + j, none⟩ = some (.int .i64 (zs.getD j 0)) := by
  rcases h.2.2 with h0 | h0
  · omega
  · exact h0
set_option maxRecDepth 20000 in
set_option maxHeartbeats 3200000 in
theorem specTwins_any (W : World) (a : Option Addr) (len cap : Nat) (ms : List (List Int)) (link : Int) (hn : -9223372036854775808 ≤ link) (hm : link ≤ 9223372036854775807) (hsm : SmallM ms) (hs : SeesM W a len ms) :
    Calls Try.prog 35 #[.slice a len cap, .int .i64 link] W (Made .i64 3 (twinV ms link) W) := by
  have hlen := hs.1
  have HL := Lib.hid hlen
  have hl20 : len ≤ 1048576 := by unfold SmallM at hsm; omega
  have HM := Lib.hid hsm
  have HO0 := Lib.hid ((own_nil .i64 3 W).wide (lo2 := W.heap.size) (hi2 := (W.alloc (.cells #[] 3)).heap.size) (Nat.le_refl _) (by simp) (Nat.le_refl _))
  have HB0 := Lib.hid ((Below.refl W.heap.size W).alloc (Nat.le_refl _) (.cells #[] 3))
  obtain ⟨i0, hi, hz0, hz1, hz2⟩ := info_parts info_i64
  by_cases h0 : len = 0
  · have HE := Lib.hid (twinV_none (l := link) (hlen.trans h0))
    clear hlen hs hsm hl20
    subst h0
    go_enter Try.func35, Try.ntmps35
    go_wp2
    go_ret
    exact ⟨_, _, _, rfl, by rw [HE.out]; exact HO0.out, HB0.out⟩
  · obtain ⟨b, off, rfl⟩ : ∃ b off, a = some ⟨b, off, none⟩ := by
      obtain ⟨b, off, _, _, h1, _⟩ := hs.2 0 (by omega)
      exact ⟨b, off, h1⟩
    have HS := Lib.hid hs
    obtain ⟨hbl, ar0, cr0, hc0, _⟩ := seesM_rowAt hs (r := 0) (by omega)
    obtain ⟨n0, hn0⟩ : ∃ n0, n0 = (row ms 0).length := ⟨_, rfl⟩
    have hn20 : n0 ≤ 1048576 := by have := hsm.row (r := 0) (by omega); omega
    rw [← hn0, Nat.add_zero] at hc0
    have HN0 := Lib.hid hn0
    have HC0 := Lib.hid (And.intro hbl hc0)
    have hpos : 0 < ms.length := by omega
    have HP := Lib.hid hpos
    have h0i : ¬ (len : Int) = 0 := by omega
    have h0b : ((len : Int) == 0) = false := by simp; omega
    have k00 : (0 : Int) < (len : Int) := by omega
    have wn : IntKind.i64.wrap ((n0 : Int) - 1) = (n0 : Int) - 1 := IntWalk.i64_in _ (by omega)
    have hc0a := (HB0.out.cell (p := ⟨b, off, none⟩) hbl).trans hc0
    clear hs hsm hlen hpos
    cases h1 : inR link 0 ((n0 : Int) - 1)
    · have H1 := Lib.hid h1
      have HE := Lib.hid (twinV_out (ms := ms) (l := link) (by rw [← HN0.out]; exact h1))
      clear h1 hn0
      go_enter Try.func35, Try.ntmps35
      go_wp2_with (first | (go_at_call 52; refine (l1In_any _ _ _ _).mono ?_; rw [H1.out]; rintro e w' ⟨rfl, rfl⟩))
      go_ret
      exact ⟨_, _, _, rfl, by rw [HE.out]; exact HO0.out, HB0.out⟩
    · obtain ⟨l0, l1⟩ := inR_true.1 h1
      have H1 := Lib.hid h1
      obtain ⟨q, rfl⟩ : ∃ q : Nat, link = (q : Int) := ⟨link.toNat, by omega⟩
      have hq : q < n0 := by omega
      clear h1 hn0
      go_enter Try.func35, Try.ntmps35
      go_wp2_with (first | (go_at_call 52; refine (l1In_any _ _ _ _).mono ?_; rw [H1.out]; rintro e w' ⟨rfl, rfl⟩))
      clear hc0a hc0
      go_loopw [6] (fun s wr => ∃ i : Nat, i ≤ len ∧ s = .int .i64 i ∧ Hid (∀ r, r < i → (row ms r).length = n0) ∧ Own .i64 3 wr W.heap.size wr.heap.size (some ⟨W.heap.size, 0, none⟩) 0 0 [] ∧ Below W.heap.size W wr) (fun s _ => len - (intOf s).toNat)
      case atStart => exact ⟨0, Nat.zero_le _, rfl, Lib.hid (fun r hr => by omega), HO0.out, HB0.out⟩
      case round =>
        obtain ⟨i, hi2, rfl, HR, ho, hb⟩ := hrel
        have HO := Lib.hid ho
        have HB := Lib.hid hb
        have hc0 := (hb.cell (p := ⟨b, off, none⟩) HC0.out.1).trans HC0.out.2
        clear ho
        by_cases hlt : i < len
        · obtain ⟨_, ar, cr, hci, _⟩ := seesM_rowAt HS.out hlt
          have hci := (hb.cell (p := ⟨b, off + i, none⟩) HC0.out.1).trans hci
          obtain ⟨n, hnn⟩ : ∃ n, n = (row ms i).length := ⟨_, rfl⟩
          have hn20 : n ≤ 1048576 := by have := HM.out.row (r := i) (by rw [HL.out]; exact hlt); omega
          rw [← hnn] at hci
          have HNN := Lib.hid hnn
          have j0 : (0 : Int) ≤ (i : Int) := by omega
          have j1 : (i : Int) < (len : Int) := by omega
          clear hb hnn
          by_cases he : n = n0
          · subst he
            go_wp2_with fail
            go_quiet (fail)
            go_wp2
            go_roundw
            case rel => exact ⟨i + 1, by omega, by go_num, Lib.hid (fun r hr => by rcases Nat.lt_or_eq_of_le (Nat.lt_succ_iff.1 hr) with h | h; exact HR.out r h; subst h; exact HNN.out.symm), HO.out.below (below_drewN (Below.refl _ _) _) |>.wide (Nat.le_refl _) (below_drewN (Below.refl wr.heap.size wr) _).size (Nat.le_refl _), below_drewN HB.out _⟩
            case measure => simp [intOf]; omega
          · have hei : ¬ (n : Int) = (n0 : Int) := by omega
            have heb : ((n : Int) == (n0 : Int)) = false := by simp; omega
            have HE := Lib.hid (twinV_uneven (l := (q : Int)) (evenB_no (ms := ms) (i := i) (by rw [HL.out]; exact hlt) (by rw [← HNN.out, ← HN0.out]; exact he)))
            go_wp2_with fail
            go_quiet (fail)
            go_wp2
            go_ret
            exact ⟨_, _, _, rfl, by rw [HE.out]; exact HO.out.below (below_drewN (Below.refl _ _) _) |>.wide (Nat.le_refl _) (below_drewN (Below.refl wr.heap.size wr) _).size (Nat.le_refl _), below_drewN HB.out _⟩
        · obtain rfl : i = len := by omega
          clear hb hc0
          have HEV := Lib.hid (twinV_is HP.out (by rw [← HN0.out]; exact H1.out) (evenB_yes (fun r hr => by rw [← HN0.out]; exact HR.out r (by rw [← HL.out]; exact hr))))
          go_wp2_with fail
          go_loopw [5, 7, 8, 9] (fun v s _ _ wr => ∃ (k l' : Nat) (a' : Option Addr) (c' : Nat), k ≤ n0 ∧ l' ≤ k ∧ s = .int .i64 k ∧ v = .slice a' l' c' ∧ Own .i64 3 wr W.heap.size wr.heap.size a' l' c' (twinK ms q k) ∧ Below W.heap.size W wr) (fun _ s _ _ _ => n0 - (intOf s).toNat)
          case atStart => exact ⟨0, 0, _, _, Nat.zero_le _, Nat.zero_le _, rfl, rfl, HO.out, HB.out⟩
          case round =>
            obtain ⟨k, l', a', c', hk, hl', rfl, rfl, ho, hb⟩ := hrel
            have HO2 := Lib.hid ho
            have HB2 := Lib.hid hb
            have hc0 := (hb.cell (p := ⟨b, off, none⟩) HC0.out.1).trans HC0.out.2
            clear ho hb
            by_cases hkn : k < n0
            · have HN : Hid (twinK ms q (k + 1) = if twinB ms k q = true then twinK ms q k ++ [(k : Int)] else twinK ms q k) := Lib.hid (by rw [twinK])
              have HKW : Hid ((Lit.int .i64 (k : Int)).wf = true) := Lib.hid (WalkArith.wf_i64 (by omega))
              go_wp2_with fail
              clear hc0
              go_loopw [8, 9] (fun t s wr2 => ∃ (i2 : Nat) (tb : Bool), i2 ≤ i ∧ t = .bool tb ∧ s = .int .i64 i2 ∧ Hid (tb = (!decide ((k : Int) = (q : Int)) && sameB ms k q i2)) ∧ Own .i64 3 wr2 W.heap.size wr2.heap.size a' l' c' (twinK ms q k) ∧ Below W.heap.size W wr2) (fun _ s _ => i - (intOf s).toNat)
              case atStart => exact ⟨0, _, Nat.zero_le _, rfl, rfl, Lib.hid (by rw [sameB, Bool.and_true]; first | rfl | simp), HO2.out, HB2.out⟩
              case round =>
                obtain ⟨i2, tb, hi3, rfl, rfl, HT, ho, hb⟩ := hrel
                have HO3 := Lib.hid ho
                have HB3 := Lib.hid hb
                cases tb
                · have HF : Hid (twinB ms k q = false) := Lib.hid (by
                    unfold twinB
                    have h := HT.out
                    cases hd : decide ((k : Int) = (q : Int)) with
                    | true => rfl
                    | false =>
                      rw [hd] at h
                      cases hss : sameB ms k q ms.length with
                      | false => rfl
                      | true => rw [sameB_up ms.length (by rw [HL.out]; exact hi3) hss] at h; cases h)
                  clear ho hb
                  by_cases hli : i2 < i
                  · go_wp2_with fail
                    go_roundw
                    case rel => exact ⟨k + 1, l', _, _, by omega, by omega, by go_num, rfl, by rw [HN.out, HF.out]; exact HO3.out, HB3.out⟩
                    case measure => simp [intOf]; omega
                  · go_wp2_with fail
                    go_roundw
                    case rel => exact ⟨k + 1, l', _, _, by omega, by omega, by go_num, rfl, by rw [HN.out, HF.out]; exact HO3.out, HB3.out⟩
                    case measure => simp [intOf]; omega
                · by_cases hli : i2 < i
                  · obtain ⟨_, ar, cr, hci, hsr⟩ := seesM_rowAt HS.out hli
                    have hrl := HR.out i2 hli
                    rw [hrl] at hci hsr
                    obtain ⟨b2, o2, rfl, hb2, hc2⟩ := sees_cellAt hsr hkn
                    obtain ⟨x, hx⟩ : ∃ x, x = (row ms i2).getD k 0 := ⟨_, rfl⟩
                    obtain ⟨y, hy⟩ : ∃ y, y = (row ms i2).getD q 0 := ⟨_, rfl⟩
                    have hcx := hc2 k hkn
                    have hcy := hc2 q hq
                    rw [← hx] at hcx
                    rw [← hy] at hcy
                    have hci := (hb.cell (p := ⟨b, off + i2, none⟩) HC0.out.1).trans hci
                    have hcx := (hb.cell (p := ⟨b2, o2 + k, none⟩) hb2).trans hcx
                    have hcy := (hb.cell (p := ⟨b2, o2 + q, none⟩) hb2).trans hcy
                    have HNB : Hid (sameB ms k q (i2 + 1) = (sameB ms k q i2 && decide (x = y))) := Lib.hid (by rw [sameB, ← hx, Int.toNat_natCast, ← hy])
                    have j0 : (0 : Int) ≤ (i2 : Int) := by omega
                    have j1 : (i2 : Int) < (i : Int) := by omega
                    have j2 : (0 : Int) ≤ (k : Int) := by omega
                    have j3 : (k : Int) < (n0 : Int) := by omega
                    have j4 : (0 : Int) ≤ (q : Int) := by omega
                    have j5 : (q : Int) < (n0 : Int) := by omega
                    clear ho hb hx hy hc2 hsr hrl
                    by_cases he : x = y
                    · have HT2 : Hid (true = (!decide ((k : Int) = (q : Int)) && sameB ms k q (i2 + 1))) := Lib.hid (by rw [HNB.out, decide_eq_true he, Bool.and_true]; exact HT.out)
                      subst he
                      go_wp2_with fail
                      go_quiet (fail)
                      go_wp2
                      go_roundw
                      case rel => exact ⟨i2 + 1, true, by omega, by first | rfl | simp, by go_num, HT2, HO3.out.below (below_drewN (Below.refl _ _) _) |>.wide (Nat.le_refl _) (below_drewN (Below.refl W.heap.size _) _).size (Nat.le_refl _), below_drewN HB3.out _⟩
                      case measure => simp [intOf]; omega
                    · have HT2 : Hid (false = (!decide ((k : Int) = (q : Int)) && sameB ms k q (i2 + 1))) := Lib.hid (by rw [HNB.out, decide_eq_false he, Bool.and_false, Bool.and_false])
                      have heb : (x == y) = false := by simp [he]
                      go_wp2_with fail
                      go_quiet (fail)
                      go_wp2
                      go_roundw
                      case rel => exact ⟨i2 + 1, false, by omega, by first | rfl | simp [heb], by go_num, HT2, HO3.out.below (below_drewN (Below.refl _ _) _) |>.wide (Nat.le_refl _) (below_drewN (Below.refl W.heap.size _) _).size (Nat.le_refl _), below_drewN HB3.out _⟩
                      case measure => simp [intOf]; omega
                  · obtain rfl : i2 = i := by omega
                    have HF : Hid (twinB ms k q = true) := Lib.hid (by unfold twinB; rw [HL.out]; exact HT.out.symm)
                    clear ho hb
                    go_wp2_with (first
                      | (at_builtin; refine wp_append_sees rfl _ _ 25 rfl 3 i0 .i64 8 Try.underlying25 hi hz0 hz1 hz2 _ _ _ _ rfl _ _ (HO3.out.alloc _) _ _ _ _ rfl (sees_one (x := (k : Int)) HKW.out _ _) (by unfold maxLen; omega) (by omega) (by have := HB3.out.size; simp; omega) ?_; intro b4 len4 cap4 w4 hlen4 ho4 hm4; subst hlen4; have HO4 := Lib.hid ho4; have HM4 := Lib.hid hm4; clear ho4 hm4))
                    go_roundw
                    case rel => exact ⟨k + 1, l' + 1, _, _, by omega, by omega, by go_num, rfl, by rw [HN.out, HF.out]; exact HO4.out, below_moved (HB3.out.alloc HB3.out.size _) HM4.out (Nat.le_refl _) (Nat.le_refl _)⟩
                    case measure => simp [intOf]; omega
            · obtain rfl : k = n0 := by omega
              go_wp2
              go_ret
              exact ⟨_, _, _, rfl, by rw [HEV.out, ← HN0.out]; exact HO2.out, HB2.out⟩
end Go.Proofs.Ytedkeobhcpbigaa
