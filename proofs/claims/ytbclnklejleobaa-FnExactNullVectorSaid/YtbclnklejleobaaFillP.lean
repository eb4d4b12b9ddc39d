/- The program's common multiple, and how it fills a null vector. -/
import Derived.Test.YtbclnklejleobaaStartP
import Derived.Test.YtbclnklejleobaaClear
namespace Go.Proofs.Ytbclnklejleobaa
open Go.RowKit
set_option maxRecDepth 20000 in
set_option maxHeartbeats 800000 in
theorem common_any (W : World) (a : Option Addr) (cap : Nat) (rs : List (List Int)) (n : Nat) (hA : NullAt n rs) (hs : SeesM W a rs.length rs) :
    Calls Try.prog 65 #[.slice a rs.length cap] W fun e w' => e = .returned (.int .i64 (lcmN rs rs.length)) ∧ Below W.heap.size W w' := by
  have HS := Lib.hid hs
  have HA := Lib.hid hA
  have hn6 : n ≤ 6 := hA.n6
  have hr6 : rs.length ≤ 6 := hA.many
  obtain ⟨v, hv⟩ : ∃ v, v = lcmN rs rs.length := ⟨_, rfl⟩
  rw [← hv]
  have HV := Lib.hid hv
  clear hs hA hv
  go_enter Try.func65, Try.ntmps65
  go_wp2_with fail
  go_loopw [3, 9, 5, 6] (fun v i _ _ wr => ∃ (u : Nat) (x : Int), u ≤ rs.length ∧ i = .int .i64 u ∧ v = .int .i64 x ∧ x = lcmN rs u ∧ Below W.heap.size W wr) (fun _ i _ _ _ => rs.length - (intOf i).toNat)
  case atStart => exact ⟨0, 1, Nat.zero_le _, rfl, rfl, rfl, Below.refl _ _⟩
  case round =>
    obtain ⟨u, x, hu, rfl, rfl, hx, hb⟩ := hrel
    have HB := Lib.hid hb
    have hxb := HA.out.lcm u hu
    rw [← hx] at hxb
    obtain ⟨hx0, hx1⟩ := hxb
    have HX := Lib.hid hx
    clear hx
    by_cases hul : u < rs.length
    · obtain ⟨b1, o1, ar, cr, rfl, hbl, hc, _, _, hsr⟩ := HS.out.2 u hul
      have hcw := (hb.cell (p := ⟨b1, o1 + u, none⟩) hbl).trans hc
      rw [HA.out.wid u hul] at hcw hsr
      have HSR := Lib.hid (hsr.below hb)
      obtain ⟨d, hd⟩ : ∃ d, d = leadL (row rs u) := ⟨_, rfl⟩
      have hdn : d < n := by rw [hd]; exact HA.out.lead u hul
      have HSV : Hid (startV (row rs u) = (d : Int)) := Lib.hid (by rw [hd]; exact startV_lead (by rw [HA.out.wid u hul]; exact HA.out.lead u hul))
      rcases hsr.2.2 with h0 | ⟨b2, o2, rfl, hb2, hc2⟩
      · omega
      · have hcc := (hb.cell (p := ⟨b2, o2 + d, none⟩) hb2).trans (hc2 d hdn)
        obtain ⟨p, hp⟩ : ∃ p, p = leadV rs u := ⟨_, rfl⟩
        rw [show (row rs u).getD d 0 = p by rw [hp, hd]; rfl] at hcc
        have hpb := HA.out.pos u hul
        rw [← hp] at hpb
        obtain ⟨hp0, hp1⟩ := hpb
        obtain ⟨g, hg⟩ : ∃ g : Int, g = (Int.gcd x p : Int) := ⟨_, rfl⟩
        have hg1 : 1 ≤ g := by have := Int.gcd_pos_of_ne_zero_left p (show x ≠ 0 by omega); omega
        have hg2 : g ≤ 134217728 := by
          have := Int.le_of_dvd (show 0 < x by omega) (Int.gcd_dvd_left x p)
          omega
        have HG := Lib.hid hg
        obtain ⟨q, hq⟩ : ∃ q, x.tdiv g = q := ⟨_, rfl⟩
        have hq0 : 0 ≤ q := by rw [← hq]; exact Int.tdiv_nonneg (by omega) (by omega)
        have hq1 : q ≤ 134217728 := by have := Int.natAbs_tdiv_le_natAbs x g; rw [hq] at this; omega
        have hm := HA.out.lcm (u + 1) (by omega)
        obtain ⟨y, hy⟩ : ∃ y, q * p = y := ⟨_, rfl⟩
        have HY : Hid (y = lcmN rs (u + 1)) := Lib.hid (by rw [lcmN, ← HX.out, ← hp, ← hg, hq, hy])
        rw [← HY.out] at hm
        obtain ⟨hm0, hm1⟩ := hm
        have hw : IntKind.i64.wrap (q * p) = y := by rw [hy]; exact IntWalk.i64_in _ (by omega)
        have hn9 : n ≤ 1073741824 := by omega
        clear hc hsr hb hd hc2 hp hg hy
        go_wp2_with (first
          | (go_at_call 47; refine (startOf_any _ _ n cr (row rs u) hn9 HSR.out).mono ?_; rw [HSV.out]; rintro e w' ⟨rfl, rfl⟩)
          | (go_at_call 75; refine (prgGcd_any x p _ (by omega) (by omega) (by omega) (by omega)).mono ?_; rw [← HG.out]; rintro e w3 ⟨rfl, hb3⟩; have HB3 := Lib.hid (below_up HB.out hb3 (Nat.le_refl _)); clear hb3))
        go_roundw
        case rel => exact ⟨u + 1, y, by omega, by go_num, rfl, HY.out, HB3.out⟩
        case measure => simp [intOf]; omega
    · obtain rfl : u = rs.length := by omega
      have HE : Hid (v = x) := Lib.hid (by rw [HV.out, HX.out])
      clear hb
      go_wp2
      go_ret
      exact ⟨ret_intV HE.out.symm, HB.out⟩
set_option maxRecDepth 20000 in
set_option maxHeartbeats 1600000 in
theorem fill_any (W : World) (lo hi lo2 hi2 : Nat) (b : Option Addr) (cb : Nat) (a : Option Addr) (cap : Nat) (rs : List (List Int)) (n f : Nat) (hA : NullAt n rs) (ho : Own .i64 3 W lo hi b n cb (List.replicate n 0)) (hs : SeesF W lo2 hi2 a rs.length rs) (hdis : hi2 ≤ lo ∨ hi ≤ lo2) (hf : f < n) :
    Calls Try.prog 44 #[.slice b n cb, .slice a rs.length cap, .int .i64 (f : Int)] W fun e w' => e = .returned (.tuple #[]) ∧ Own .i64 3 w' lo hi b n cb (nullAt rs n f rs.length) ∧ Moved lo hi W w' := by
  have HS := Lib.hid hs
  have HA := Lib.hid hA
  have HO := Lib.hid ho
  have hn6 : n ≤ 6 := hA.n6
  have hr6 : rs.length ≤ 6 := hA.many
  obtain ⟨x, hx⟩ : ∃ x, x = lcmN rs rs.length := ⟨_, rfl⟩
  have hxb := hA.lcm rs.length (Nat.le_refl _)
  rw [← hx] at hxb
  obtain ⟨hx0, hx1⟩ := hxb
  have HX := Lib.hid hx
  rcases ho.spot with ⟨_, h0, _⟩ | ⟨g, rfl, hg1, hg2, _, _, _, _⟩
  · omega
  clear hs hA hx ho
  go_enter Try.func44, Try.ntmps44
  go_wp2_with (go_at_call 65; refine (common_any _ a cap rs n HA.out HS.out.sees).mono ?_; rw [← HX.out]; rintro e w1 ⟨rfl, hb1⟩; have HB1 := Lib.hid hb1; have HO1 := Lib.hid (HO.out.below hb1); have hcd1 := (HO.out.below hb1).spot; clear hb1; rcases hcd1 with ⟨hcd1, _⟩ | ⟨g', hcd1, _, _, _, _, hcs1, hfz1⟩ <;> first | (cases hcd1; done) | skip; cases hcd1; have hcd1 := hcs1 f hf; have hfd1 := hfz1 f; clear hcs1 hfz1)
  have HST := Lib.hid (HO1.out.stored f x (WalkArith.wf_i64 (by omega)))
  have HN0 : Hid ((List.replicate n (0 : Int)).set f x = nullAt rs n f 0) := Lib.hid (by rw [nullAt, HX.out])
  go_loopw [18, 8, 9] (fun i _ _ wr => ∃ t : Nat, t ≤ rs.length ∧ i = .int .i64 t ∧ Own .i64 3 wr lo hi (some ⟨g, 0, none⟩) n cb (nullAt rs n f t) ∧ Moved lo hi W wr) (fun i _ _ _ => rs.length - (intOf i).toNat)
  case atStart => exact ⟨0, Nat.zero_le _, rfl, by have h := HST.out.1; rw [HN0.out] at h; exact h, (Moved.of_below HB1.out).trans HST.out.2⟩
  case round =>
    obtain ⟨t, ht, rfl, ho, hb⟩ := hrel
    have HO3 := Lib.hid ho
    have HB3 := Lib.hid hb
    by_cases htl : t < rs.length
    · have hsf := HS.out.moved hb (by omega)
      obtain ⟨b1, o1, ar, cr, rfl, hbl, _, hcw, _, _, hsr, _⟩ := hsf.2 t htl
      rw [HA.out.wid t htl] at hcw hsr
      have HSR := Lib.hid hsr
      obtain ⟨d, hd⟩ : ∃ d, d = leadL (row rs t) := ⟨_, rfl⟩
      have hdn : d < n := by rw [hd]; exact HA.out.lead t htl
      have HSV : Hid (startV (row rs t) = (d : Int)) := Lib.hid (by rw [hd]; exact startV_lead (by rw [HA.out.wid t htl]; exact HA.out.lead t htl))
      rcases hsr.2.2 with h0 | ⟨b2, o2, rfl, hb2, hc2⟩
      · omega
      · have hcc := hc2 d hdn
        have hcf := hc2 f hf
        have hee := HA.out.entry htl f
        have hqq := HA.out.quo htl
        have hpb := HA.out.pos t htl
        obtain ⟨p, hp⟩ : ∃ p, p = leadV rs t := ⟨_, rfl⟩
        obtain ⟨y, hy⟩ : ∃ y, y = vec (row rs t) f := ⟨_, rfl⟩
        rw [show (row rs t).getD d 0 = p by rw [hp, hd]; rfl] at hcc
        rw [show (row rs t).getD f 0 = y from hy.symm] at hcf
        rw [← hp, ← hy, ← HX.out] at hee
        rw [← hp, ← HX.out] at hqq
        rw [← hp] at hpb
        obtain ⟨hp0, hp1⟩ := hpb
        obtain ⟨q, hq⟩ : ∃ q, x.tdiv p = q := ⟨_, rfl⟩
        rw [hq] at hee hqq
        obtain ⟨hq0, hq1⟩ := hqq
        have hqn : (-x).tdiv p = -q := by rw [Int.neg_tdiv, hq]
        obtain ⟨z, hz⟩ : ∃ z, -q * y = z := ⟨_, rfl⟩
        rw [hz] at hee
        obtain ⟨he0, he1⟩ := hee
        have hw : IntKind.i64.wrap (-q * y) = z := by rw [hz]; exact IntWalk.i64_in _ (by omega)
        have hw2 : wrap64 (-q * y) = z := by rw [← IntWalk.i64_left]; exact hw
        have HWW := Lib.hid hw2
        have HZ : Hid ((nullAt rs n f t).set d z = nullAt rs n f (t + 1)) := Lib.hid (by rw [nullAt, ← HX.out, ← hp, ← hy, hq, hz, hd])
        rcases ho.spot with ⟨hx0, _⟩ | ⟨g', hg', _, hgs, _, _, hcs, hfz⟩
        · cases hx0
        · cases hg'
          have hcd := hcs d hdn
          have hfd := hfz d
          have hd0 : (0 : Int) ≤ (d : Int) := Int.natCast_nonneg _
          have hdi : (d : Int) < (n : Int) := by omega
          have hf0 : (0 : Int) ≤ (f : Int) := Int.natCast_nonneg _
          have hfi : (f : Int) < (n : Int) := by omega
          have hn9 : n ≤ 1073741824 := by omega
          have HST3 := Lib.hid (HO3.out.stored d z (WalkArith.wf_i64 (by omega)))
          clear hsr hb ho hd hc2 hp hy hz hcs hfz hsf
          go_wp2_with (go_at_call 47; refine (startOf_any _ _ n cr (row rs t) hn9 HSR.out).mono ?_; rw [HSV.out]; rintro e w' ⟨rfl, rfl⟩)
          go_region_with (fail)
          all_goals (go_wp2)
          all_goals
            go_roundw
            case rel =>
              have h := HST3.out.1
              rw [HZ.out] at h
              have h2 : Own .i64 3 (wr.setCell ⟨g, d, none⟩ (.int .i64 z)).drew lo hi (some ⟨g, 0, none⟩) n cb (nullAt rs n f (t + 1)) := h.below (Below.refl _ _).drew
              have h3 : Moved lo hi W (wr.setCell ⟨g, d, none⟩ (.int .i64 z)).drew := (HB3.out.trans HST3.out.2).trans (Moved.of_below (Below.refl _ _).drew)
              first
                | exact ⟨t + 1, by omega, by go_num, h2, h3⟩
                | (rw [HWW.out]; exact ⟨t + 1, by omega, by go_num, h2, h3⟩)
            case measure => simp [intOf]; omega
    · obtain rfl : t = rs.length := by omega
      clear ho hb
      go_wp2
      go_end0
      exact ⟨rfl, HO3.out, HB3.out⟩
end Go.Proofs.Ytbclnklejleobaa
