/- Draws of chapter 14: DrawToldLinks, DrawUsefulRows, DrawDelayOf. -/
import Derived.Test.YtedkeobhcpbigaaDraw6
namespace Go.Proofs.Ytedkeobhcpbigaa
open Go.RowKit
set_option maxRecDepth 20000 in
set_option maxHeartbeats 1600000 in
theorem drawTold_any (W : World) (a : Option Addr) (len cap : Nat) (hl : len ≤ 1048576) (hc : CodeAt W W.heap.size a len) : Calls Try.prog 47 #[.slice a len cap] W (GotMI W) := by
  have HK := Lib.hid hc
  clear hc
  go_enter Try.func47, Try.ntmps47
  go_wp2_with fail
  go_at_call 38
  refine (new_any _ a len cap hl HK.out).mono ?_
  rintro e w1 ⟨rfl, hc1, hb1, hz1⟩
  have HC1 := Lib.hid hc1
  have HB1 := Lib.hid hb1
  clear hc1 hb1
  go_wp2_with fail
  go_at_call 39
  refine (below_any _ _ 6 (by decide) HC1.out).mono ?_
  rintro e w2 ⟨x, ⟨hx0, hx1⟩, rfl, hc2, hg2⟩
  have hx2 : x < 6 := by omega
  obtain ⟨n, hn⟩ : ∃ n : Nat, 1 + x = (n : Int) := ⟨(1 + x).toNat, by omega⟩
  have hn1 : 1 ≤ n := by omega
  have hn6 : n ≤ 6 := by omega
  have HN := Lib.hid hn
  have HC2 := Lib.hid hc2
  have HB2 := Lib.hid (HB1.out.trans (grown_below' hg2 (Nat.le_of_lt hz1)))
  have hz2 : W.heap.size < w2.heap.size := Nat.lt_of_lt_of_le hz1 hg2.size
  clear hc2 hg2 hx1 hn
  go_wp2_with fail
  rw [HN.out]
  go_at_call 39
  refine (below_any _ _ 7 (by decide) HC2.out).mono ?_
  rintro e w3 ⟨y, ⟨hy0, hy1⟩, rfl, hc3, hg3⟩
  obtain ⟨m, rfl⟩ : ∃ m : Nat, y = (m : Int) := ⟨y.toNat, by omega⟩
  have hm6 : m ≤ 6 := by omega
  have HC3 := Lib.hid hc3
  have HB3 := Lib.hid (HB2.out.trans (grown_below' hg3 (Nat.le_of_lt hz2)))
  have hz3 : W.heap.size < w3.heap.size := Nat.lt_of_lt_of_le hz2 hg3.size
  clear hc3 hg3 hy0 hy1
  go_wp2_with fail
  go_at_call 69
  refine (bits5_any w3 W.heap.size m n (by omega) hn6 HC3.out).mono ?_
  rintro e w4 ⟨ms, a4, c4, hr4, rfl, ho4, hc4, hg4⟩
  have HSM := Lib.hid (drawn_small ho4.1 (by omega) (fun r hr => by rw [hr4 r hr]; omega))
  have HO4 := Lib.hid ho4
  have HC4 := Lib.hid hc4
  have HB4 := Lib.hid (HB3.out.trans (grown_below' hg4 (by omega)))
  have hz4 : W.heap.size < w4.heap.size := Nat.lt_of_lt_of_le hz3 hg4.size
  clear ho4 hc4 hg4 hr4
  go_wp2_with fail
  go_at_call 60
  refine (once_any _ _ 8 (by decide) HC4.out).mono ?_
  rintro e w5 ⟨q, rfl, hc5, hg5⟩
  have HO5 := Lib.hid (HO4.out.grown hg5 (by omega))
  have HB5 := Lib.hid (HB4.out.trans (grown_below' hg5 (by omega)))
  clear hc5 hg5
  cases q
  · go_wp2_with fail
    go_ret2
    exact ⟨ms, _, _, _, _, HSM.out, by omega, ⟨by omega, by omega⟩, rfl, HO5.out.wide (by omega) HO5.out.2.1 (Nat.le_refl _), HB5.out⟩
  · have HK5 := Lib.hid ((HK.out.below HB5.out).mono HB5.out.size)
    have hsz := HB5.out.size
    go_wp2_with (go_at_call 70; refine (drawIsM_any _ a len cap hl HK5.out).mono ?_; rintro e w6 ⟨ms6, a6, l6, c6, n6, hsm, hl6, ⟨hn0, hn7⟩, rfl, ho6, hb6⟩; have HSM6 := Lib.hid hsm; have HO6 := Lib.hid ho6; have HB6 := Lib.hid (below_up HB5.out hb6 (Nat.le_refl _)); clear hsm ho6 hb6)
    go_ret2
    exact ⟨ms6, _, _, _, _, HSM6.out, hl6, ⟨hn0, hn7⟩, rfl, HO6.out.wide hsz HO6.out.2.1 (Nat.le_refl _), HB6.out⟩
theorem drawUsef_any (W : World) (a : Option Addr) (len cap : Nat) (hl : len ≤ 1048576) (hc : CodeAt W W.heap.size a len) : Calls Try.prog 17 #[.slice a len cap] W (GotMI W) := by
  have HK := Lib.hid hc
  clear hc
  go_enter Try.func17, Try.ntmps17
  go_wp2_with (go_at_call 47; refine (drawTold_any _ a len cap hl HK.out).mono ?_; rintro e w1 ⟨ms, a1, l1, c1, n, hsm, hl1, ⟨hn0, hn1⟩, rfl, ho1, hb1⟩; have HSM := Lib.hid hsm; have HO1 := Lib.hid ho1; have HB1 := Lib.hid hb1; clear hsm ho1 hb1)
  go_ret2
  exact ⟨ms, _, _, _, _, HSM.out, hl1, ⟨hn0, hn1⟩, rfl, HO1.out, HB1.out⟩
/-- A system, or what is none, a link and a number of columns. -/
def GotDel (w : World) (e : Ending) (w' : World) : Prop :=
  ∃ (ms : List (List Int)) (a : Option Addr) (len cap : Nat) (vs : List Int) (b : Option Addr) (lb cb : Nat) (k n : Int), SmallM ms ∧ len ≤ 13 ∧ lb ≤ 13 ∧ lb ≤ cb ∧ cb ≤ maxLen ∧ (-1 ≤ k ∧ k ≤ n) ∧ (1 ≤ n ∧ n ≤ 6) ∧ e = .returned (.tuple #[.slice a len cap, .slice b lb cb, .int .i64 k, .int .i64 n]) ∧ OwnM w' w.heap.size w'.heap.size a len cap ms ∧ Sees .i64 w' b lb vs ∧ Below w.heap.size w w'
set_option maxRecDepth 20000 in
set_option maxHeartbeats 1600000 in
theorem drawDel_any (W : World) (a : Option Addr) (len cap : Nat) (hl : len ≤ 1048576) (hc : CodeAt W W.heap.size a len) : Calls Try.prog 11 #[.slice a len cap] W (GotDel W) := by
  have HK := Lib.hid hc
  clear hc
  go_enter Try.func11, Try.ntmps11
  go_wp2_with fail
  go_at_call 38
  refine (new_any _ a len cap hl HK.out).mono ?_
  rintro e w1 ⟨rfl, hc1, hb1, hz1⟩
  have HC1 := Lib.hid hc1
  have HB1 := Lib.hid hb1
  clear hc1 hb1
  go_wp2_with fail
  go_at_call 39
  refine (below_any _ _ 6 (by decide) HC1.out).mono ?_
  rintro e w2 ⟨x, ⟨hx0, hx1⟩, rfl, hc2, hg2⟩
  have hx2 : x < 6 := by omega
  obtain ⟨n, hn⟩ : ∃ n : Nat, 1 + x = (n : Int) := ⟨(1 + x).toNat, by omega⟩
  have hn1 : 1 ≤ n := by omega
  have hn6 : n ≤ 6 := by omega
  have HN := Lib.hid hn
  have HC2 := Lib.hid hc2
  have HB2 := Lib.hid (HB1.out.trans (grown_below' hg2 (Nat.le_of_lt hz1)))
  have hz2 : W.heap.size < w2.heap.size := Nat.lt_of_lt_of_le hz1 hg2.size
  clear hc2 hg2 hx1 hn
  go_wp2_with fail
  rw [HN.out]
  go_at_call 40
  refine (any6_any _ _ n hn1 hn6 HC2.out).mono ?_
  rintro e w3 ⟨ms, a3, l3, c3, vs, b3, lb3, cb3, hsm, hl3, hlb3, hle3, hcm3, rfl, ho3, hv3, hbk3, hc3, hg3⟩
  have HSM := Lib.hid hsm
  have HM3 := Lib.hid ho3
  have HV3 := Lib.hid hv3
  have HBK : Hid (∀ x, b3 = some x → W.heap.size < x.block) := Lib.hid (fun x hx => Nat.lt_of_lt_of_le hz2 (hbk3 x hx))
  have HC3 := Lib.hid hc3
  have HB3 := Lib.hid (HB2.out.trans (grown_below' hg3 (by omega)))
  have hz3 := hg3.size
  clear hsm ho3 hv3 hbk3 hc3 hg3
  go_wp2_with fail
  go_at_call 39
  (refine (below_any _ W.heap.size ((n : Int) + 2) (by omega) HC3.out).mono ?_; rintro e w4 ⟨y, ⟨hy0, hy1⟩, rfl, hc4, hg4⟩; have HM4 := Lib.hid (HM3.out.grown hg4 (by omega)); have HV4 := Lib.hid (HV3.out.grownB hg4 HBK.out); have HB4 := Lib.hid (HB3.out.trans (grown_below' hg4 (by omega))); have hz4 := hg4.size; have hy2 : y ≤ (n : Int) + 1 := (by omega); clear hc4 hg4 hy1)
  go_wp2_with fail
  refine bodyPost_ret (v := .tuple #[.slice a3 l3 c3, .slice b3 lb3 cb3, .int .i64 (y - 1), .int .i64 (n : Int)]) (by simp [results, Try.results11, go_sem]) rfl ?_
  exact ⟨ms, _, _, _, vs, _, _, _, _, _, HSM.out, hl3, hlb3, hle3, hcm3, ⟨by omega, by omega⟩, ⟨by omega, by omega⟩, rfl, HM4.out.wide (by omega) HM4.out.2.1 (Nat.le_refl _), HV4.out, HB4.out⟩
end Go.Proofs.Ytedkeobhcpbigaa
