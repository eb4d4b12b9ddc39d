/- The model's null vectors. -/
import Derived.Test.YtbclnklejleobaaNullV
namespace Go.Proofs.Ytbclnklejleobaa
open Go.RowKit
theorem repl_next (k : Nat) : List.replicate k (0 : Int) ++ [0] = List.replicate (k + 1) 0 := by
  rw [List.replicate_succ']
set_option maxRecDepth 20000 in
set_option maxHeartbeats 1600000 in
theorem specNull_any (W : World) (a : Option Addr) (cap : Nat) (rs : List (List Int)) (n f : Nat) (hA : NullAt n rs) (hs : SeesM W a rs.length rs) (hf : f < n) (hfree : leadIn rs f rs.length = false) :
    Calls Try.prog 51 #[.slice a rs.length cap, .int .i64 (n : Int), .int .i64 (f : Int)] W (Made .i64 3 (nullAt rs n f rs.length) W) := by
  have HS := Lib.hid hs
  have HA := Lib.hid hA
  have HFR := Lib.hid hfree
  have hn6 : n ≤ 6 := hA.n6
  have hr6 : rs.length ≤ 6 := hA.many
  clear hs hA hfree
  obtain ⟨i0, hi, hz0, hz1, hz2⟩ := info_parts info_i64
  go_enter Try.func51, Try.ntmps51
  go_wp2_with fail
  go_loopw [7, 8] (fun v i wr => ∃ (u : Nat) (x : Int), u ≤ rs.length ∧ i = .int .i64 u ∧ v = .int .i64 x ∧ x = lcmN rs u ∧ Below W.heap.size W wr) (fun _ i _ => rs.length - (intOf i).toNat)
  case atStart => exact ⟨0, 1, Nat.zero_le _, rfl, rfl, rfl, Below.refl _ _⟩
  case round =>
    obtain ⟨u, x, hu, rfl, rfl, hx, hb⟩ := hrel
    have HB := Lib.hid hb
    have hxb := HA.out.lcm u hu
    rw [← hx] at hxb
    obtain ⟨hx0, hx1⟩ := hxb
    have HX := Lib.hid hx
    clear hx
    by_cases hul : u < rs.length
    · obtain ⟨b1, o1, ar, cr, rfl, hbl, hc, _, _, hsr⟩ := HS.out.2 u hul
      have hcw := (hb.cell (p := ⟨b1, o1 + u, none⟩) hbl).trans hc
      rw [HA.out.wid u hul] at hcw hsr
      have HSR := Lib.hid (hsr.below hb)
      obtain ⟨d, hd⟩ : ∃ d, d = leadL (row rs u) := ⟨_, rfl⟩
      have hdn : d < n := by rw [hd]; exact HA.out.lead u hul
      have HD := Lib.hid hd
      rcases hsr.2.2 with h0 | ⟨b2, o2, rfl, hb2, hc2⟩
      · omega
      · have hcc := (hb.cell (p := ⟨b2, o2 + d, none⟩) hb2).trans (hc2 d hdn)
        obtain ⟨p, hp⟩ : ∃ p, p = leadV rs u := ⟨_, rfl⟩
        rw [show (row rs u).getD d 0 = p by rw [hp, hd]; rfl] at hcc
        have hpb := HA.out.pos u hul
        rw [← hp] at hpb
        obtain ⟨hp0, hp1⟩ := hpb
        obtain ⟨g, hg⟩ : ∃ g : Int, g = (Int.gcd x p : Int) := ⟨_, rfl⟩
        have hg1 : 1 ≤ g := by have := Int.gcd_pos_of_ne_zero_left p (show x ≠ 0 by omega); omega
        have hg2 : g ≤ 134217728 := by
          have := Int.le_of_dvd (show 0 < x by omega) (Int.gcd_dvd_left x p)
          omega
        have HG := Lib.hid hg
        obtain ⟨q, hq⟩ : ∃ q, x.tdiv g = q := ⟨_, rfl⟩
        have hq0 : 0 ≤ q := by rw [← hq]; exact Int.tdiv_nonneg (by omega) (by omega)
        have hq1 : q ≤ 134217728 := by have := Int.natAbs_tdiv_le_natAbs x g; rw [hq] at this; omega
        have hm := HA.out.lcm (u + 1) (by omega)
        obtain ⟨y, hy⟩ : ∃ y, q * p = y := ⟨_, rfl⟩
        have HY : Hid (y = lcmN rs (u + 1)) := Lib.hid (by rw [lcmN, ← HX.out, ← hp, ← hg, hq, hy])
        rw [← HY.out] at hm
        obtain ⟨hm0, hm1⟩ := hm
        have hw : IntKind.i64.wrap (q * p) = y := by rw [hy]; exact IntWalk.i64_in _ (by omega)
        have hu0 : (0 : Int) ≤ (u : Int) := Int.natCast_nonneg _
        have hui : (u : Int) < (rs.length : Int) := by omega
        have hd0 : (0 : Int) ≤ (d : Int) := Int.natCast_nonneg _
        have hdi : (d : Int) < (n : Int) := by omega
        have hn9 : n ≤ 1073741824 := by omega
        clear hc hsr hb hd hc2 hp hg hy
        go_wp2_with fail
        go_region_held3 (fun w' => w'.cell? ⟨b1, o1 + u, none⟩ = some (.slice (some ⟨b2, o2, none⟩) n cr) ∧ w'.cell? ⟨b2, o2 + d, none⟩ = some (.int .i64 p)) (go_keep) (first | (go_at_call 50; refine (specLead_any _ _ n cr (row rs u) hn9 (HSR.out.below (Below.refl _ _).drew)).mono ?_; rw [← HD.out]; rintro e w' ⟨rfl, rfl⟩))
        go_wp2_with (go_at_call 70; refine (specGcd_any x p _ (by omega) (by omega) (by omega) (by omega)).mono ?_; rw [← HG.out]; rintro e w' ⟨rfl, rfl⟩)
        go_roundw
        case rel => exact ⟨u + 1, y, by omega, by go_num, rfl, HY.out, HB.out.drew⟩
        case measure => simp [intOf]; omega
    · obtain rfl : u = rs.length := by omega
      have hsz := hb.size
      clear hb
      go_wp2_with fail
      go_loopw [10, 11] (fun v i wr2 => ∃ (k : Nat) (a' : Option Addr) (c' : Nat), k ≤ n ∧ i = .int .i64 k ∧ v = .slice a' k c' ∧ Own .i64 3 wr2 W.heap.size wr2.heap.size a' k c' (List.replicate k 0) ∧ Below W.heap.size W wr2) (fun _ i _ => n - (intOf i).toNat)
      case atStart => exact ⟨0, _, _, Nat.zero_le _, rfl, rfl, (own_nil _ _ _).wide hsz (by simp) (Nat.le_refl _), HB.out.alloc hsz _⟩
      case round =>
        obtain ⟨k, a', c', hk, rfl, rfl, ho, hb⟩ := hrel
        have HO := Lib.hid ho
        have HB2 := Lib.hid hb
        have hsz2 := hb.size
        by_cases hkn : k < n
        · have HN := Lib.hid (repl_next k)
          clear ho hb
          go_wp2_with (at_builtin; refine wp_append_sees rfl _ _ 29 rfl 3 i0 .i64 8 Try.underlying29 hi hz0 hz1 hz2 _ _ _ _ rfl _ _ (HO.out.alloc _) _ _ _ _ rfl (sees_one (x := 0) (WalkArith.wf_i64 (by omega)) _ _) (by unfold maxLen; omega) (by omega) (by simp; omega) ?_; intro b2 len2 cap2 w2 hlen2 ho2 hm2; subst hlen2; have HO2 := Lib.hid ho2; have HM2 := Lib.hid hm2; clear ho2 hm2)
          go_roundw
          case rel => exact ⟨k + 1, _, _, by omega, by go_num, rfl, by have h := HO2.out; rw [HN.out] at h; exact h, below_moved (HB2.out.alloc hsz2 _) HM2.out (Nat.le_refl _) (Nat.le_refl _)⟩
          case measure => simp [intOf]; omega
        · obtain rfl : k = n := by omega
          rcases ho.spot with ⟨_, h0, _⟩ | ⟨g, rfl, hg1, hg2, _, _, hcs, hfz⟩
          · omega
          · have hcd := hcs f hf
            have hfd := hfz f
            have HST := Lib.hid (HO.out.stored f x (WalkArith.wf_i64 (by omega)))
            have HN0 : Hid ((List.replicate k (0 : Int)).set f x = nullAt rs k f 0) := Lib.hid (by rw [nullAt, HX.out])
            clear hcs hfz ho hb
            go_wp2_with fail
            go_loopw [12, 13] (fun i _ wr3 => ∃ t : Nat, t ≤ rs.length ∧ i = .int .i64 t ∧ Own .i64 3 wr3 W.heap.size wr3.heap.size (some ⟨g, 0, none⟩) k c' (nullAt rs k f t) ∧ Below W.heap.size W wr3) (fun i _ _ => rs.length - (intOf i).toNat)
            case atStart => exact ⟨0, Nat.zero_le _, rfl, by have h := HST.out.1; rw [HN0.out] at h; exact h.wide (Nat.le_refl _) h.2.2.1 (Nat.le_refl _), below_moved HB2.out HST.out.2 (Nat.le_refl _) (Nat.le_refl _)⟩
            case round =>
              obtain ⟨t, ht, rfl, ho, hb⟩ := hrel
              have HO3 := Lib.hid ho
              have HB3 := Lib.hid hb
              by_cases htl : t < rs.length
              · obtain ⟨b1, o1, ar, cr, rfl, hbl, hc, _, _, hsr⟩ := HS.out.2 t htl
                have hcw := (hb.cell (p := ⟨b1, o1 + t, none⟩) hbl).trans hc
                rw [HA.out.wid t htl] at hcw hsr
                have HSR := Lib.hid (hsr.below hb)
                obtain ⟨d, hd⟩ : ∃ d, d = leadL (row rs t) := ⟨_, rfl⟩
                have hdn : d < k := by rw [hd]; exact HA.out.lead t htl
                have HD := Lib.hid hd
                rcases hsr.2.2 with h0 | ⟨b2, o2, rfl, hb2, hc2⟩
                · omega
                · have hcc := (hb.cell (p := ⟨b2, o2 + d, none⟩) hb2).trans (hc2 d hdn)
                  have hcf := (hb.cell (p := ⟨b2, o2 + f, none⟩) hb2).trans (hc2 f hf)
                  have hee := HA.out.entry htl f
                  have hqq := HA.out.quo htl
                  have hpb := HA.out.pos t htl
                  obtain ⟨p, hp⟩ : ∃ p, p = leadV rs t := ⟨_, rfl⟩
                  obtain ⟨y, hy⟩ : ∃ y, y = vec (row rs t) f := ⟨_, rfl⟩
                  rw [show (row rs t).getD d 0 = p by rw [hp, hd]; rfl] at hcc
                  rw [show (row rs t).getD f 0 = y from hy.symm] at hcf
                  rw [← hp, ← hy, ← HX.out] at hee
                  rw [← hp, ← HX.out] at hqq
                  rw [← hp] at hpb
                  obtain ⟨hp0, hp1⟩ := hpb
                  obtain ⟨q, hq⟩ : ∃ q, x.tdiv p = q := ⟨_, rfl⟩
                  rw [hq] at hee hqq
                  obtain ⟨hq0, hq1⟩ := hqq
                  obtain ⟨z, hz⟩ : ∃ z, -q * y = z := ⟨_, rfl⟩
                  rw [hz] at hee
                  obtain ⟨he0, he1⟩ := hee
                  have hw : IntKind.i64.wrap (-q * y) = z := by rw [hz]; exact IntWalk.i64_in _ (by omega)
                  have hw2 : wrap64 (-q * y) = z := by rw [← IntWalk.i64_left]; exact hw
                  have HWW := Lib.hid hw2
                  have HZ : Hid ((nullAt rs k f t).set d z = nullAt rs k f (t + 1)) := Lib.hid (by rw [nullAt, ← HX.out, ← hp, ← hy, hq, hz, hd])
                  rcases ho.spot with ⟨hx0, _⟩ | ⟨g', hg', _, hgs, _, _, hcs, hfz⟩
                  · cases hx0
                  · cases hg'
                    have hcd := hcs d hdn
                    have hfd := hfz d
                    have ht0 : (0 : Int) ≤ (t : Int) := Int.natCast_nonneg _
                    have hti : (t : Int) < (rs.length : Int) := by omega
                    have hd0 : (0 : Int) ≤ (d : Int) := Int.natCast_nonneg _
                    have hdi : (d : Int) < (k : Int) := by omega
                    have hf0 : (0 : Int) ≤ (f : Int) := Int.natCast_nonneg _
                    have hfi : (f : Int) < (k : Int) := by omega
                    have hn9 : k ≤ 1073741824 := by omega
                    have HST3 := Lib.hid (HO3.out.stored d z (WalkArith.wf_i64 (by omega)))
                    clear hc hsr hb ho hd hc2 hp hy hz hcs hfz
                    go_wp2_with (go_at_call 50; refine (specLead_any _ _ k cr (row rs t) hn9 HSR.out).mono ?_; rw [← HD.out]; rintro e w' ⟨rfl, rfl⟩)
                    go_region_with (fail)
                    all_goals (go_wp2)
                    all_goals
                      go_roundw
                      case rel =>
                        have h := HST3.out.1
                        rw [HZ.out] at h
                        have h2 : Own .i64 3 (wr.setCell ⟨g, d, none⟩ (.int .i64 z)).drew W.heap.size (wr.setCell ⟨g, d, none⟩ (.int .i64 z)).drew.heap.size (some ⟨g, 0, none⟩) k c' (nullAt rs k f (t + 1)) := (h.below (Below.refl _ _).drew).wide (Nat.le_refl _) (by simp [World.setCell]) (Nat.le_refl _)
                        have h3 := (below_moved HB3.out HST3.out.2 (Nat.le_refl _) (Nat.le_refl _)).drew
                        first
                          | exact ⟨t + 1, by omega, by go_num, h2, h3⟩
                          | (rw [HWW.out]; exact ⟨t + 1, by omega, by go_num, h2, h3⟩)
                      case measure => simp [intOf]; omega
              · obtain rfl : t = rs.length := by omega
                clear ho hb
                go_wp2
                go_ret
                exact ⟨_, _, _, rfl, HO3.out, HB3.out⟩
end Go.Proofs.Ytbclnklejleobaa
