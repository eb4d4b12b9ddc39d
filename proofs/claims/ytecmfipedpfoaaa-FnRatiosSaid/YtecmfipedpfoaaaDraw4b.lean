/- Two fractions, and a numerator and a denominator, drawn from the bytes of a law. -/
import Derived.Test.YtecmfipedpfoaaaDraw4
import Derived.Deep.RegionHeld3
namespace Go.Proofs.Ytecmfipedpfoaaa
open Go.RowKit
/-- Two fractions, drawn from the bytes of a law. -/
def GotRR (w : World) (e : Ending) (w' : World) : Prop := ∃ a b c d : Int, (IsI64 a ∧ IsI64 b) ∧ (IsI64 c ∧ IsI64 d) ∧ e = .returned (.tuple #[.agg #[.int .i64 a, .int .i64 b], .agg #[.int .i64 c, .int .i64 d]]) ∧ Below w.heap.size w w'
theorem below_grown4 {W w1 w2 : World} {B : Nat} (h : Below W.heap.size W w1) (g : w1.grownBy w2 (some B)) (hB : W.heap.size ≤ B) : Below W.heap.size W w2 :=
  h.trans ⟨g.os, g.tape, g.output, g.size, fun k hk => g.block k (Nat.lt_of_lt_of_le hk h.size) (by simp; omega)⟩
set_option maxHeartbeats 1600000 in
theorem drawRR_any (W : World) (a : Option Addr) (len cap : Nat) (hl : len ≤ 1048576) (hc : CodeAt W W.heap.size a len) : Calls Try.prog 11 #[.slice a len cap] W (GotRR W) := by
  have HK := Lib.hid hc
  clear hc
  go_enter Try.func11, Try.ntmps11
  go_wp2_with fail
  go_at_call 28
  refine (new_any _ a len cap hl ((HK.out.below (((Below.refl _ _).alloc (Nat.le_refl _) _).alloc (by simp) _)).mono (by simp <;> omega))).mono ?_
  rintro e w1 ⟨rfl, hc1, hb1, hz1⟩
  have HC1 := Lib.hid hc1
  have HP1 := Lib.hid (((pair_new W 0 0 25).alloc _).below hb1)
  have HQ1 := Lib.hid ((pair_new (W.alloc (.cells #[.int .i64 0, .int .i64 0] 25)) 0 0 25).below hb1)
  have HB1 := Lib.hid (Below.trans (show Below W.heap.size W _ from ((Below.refl _ _).alloc (Nat.le_refl _) _).alloc (by simp) _) (hb1.mono (by simp <;> omega)))
  simp only [World.size_alloc] at HC1 HQ1
  clear hb1 hc1
  go_wp2_with fail
  go_at_call 29
  refine (ratAny_any _ _ HC1.out).mono ?_
  rintro e w2 ⟨x, y, hx, hy, rfl, hc2, hg2⟩
  have HX := Lib.hid hx
  have HY := Lib.hid hy
  have HC2 := Lib.hid hc2
  have HP2 := Lib.hid (HP1.out.grown hg2 (by omega))
  have HQ2 := Lib.hid (HQ1.out.grown hg2 (by omega))
  have HB2 := Lib.hid (below_grown4 HB1.out hg2 (by omega))
  have hz2 := hc2.lt
  have hx0 := (pair_new w2 x y 25)
  have HT2 := Lib.hid hx0
  have t0 := hx0.c0
  have t1 := hx0.c1
  clear hc2 hg2 hx hy hx0
  go_wp2_with fail
  have hn0 : w2.heap.size ≠ W.heap.size := by omega
  have hn1 : w2.heap.size ≠ W.heap.size + 1 := by omega
  have hn2 : W.heap.size ≠ w2.heap.size := by omega
  have hn3 : W.heap.size + 1 ≠ w2.heap.size := by omega
  go_region_held3 (fun w' => w'.cell? ⟨w2.heap.size, 0, none⟩ = some (.int .i64 x) ∧ w'.cell? ⟨w2.heap.size, 1, none⟩ = some (.int .i64 y)) (go_keep) (first | (go_at_call 29; refine (ratAny_any _ _ ((HC2.out.alloc _).belowN (Below.refl _ _).drew)).mono ?_; rintro e w3 ⟨u, v, hu, hv, rfl, hc3, hg3⟩; have HT3 := Lib.hid (HT2.out.drew.grown hg3 (by omega)); have HP3 := Lib.hid ((HP2.out.alloc _).drew.grown hg3 (by omega)); have HQ3 := Lib.hid ((HQ2.out.alloc _).drew.grown hg3 (by omega)); have HB3 := Lib.hid (below_grown4 (HB2.out.alloc HB2.out.size _).drew hg3 (by omega)); have t30 := HT3.out.c0; have t31 := HT3.out.c1; have p0 := HP3.out.c0; have p1 := HP3.out.c1; have p2 := HP3.out.f0; have p3 := HP3.out.f1; have q0 := HQ3.out.c0; have q1 := HQ3.out.c1; have q2 := HQ3.out.f0; have q3 := HQ3.out.f1; have HU := Lib.hid hu; have HV := Lib.hid hv; clear hc3 hg3 hu hv))
  all_goals
    go_wp2
    refine bodyPost_ret (v := .tuple #[.agg #[.int .i64 x, .int .i64 y], .agg #[.int .i64 u, .int .i64 v]]) (by simp [results, Try.results11, go_sem, p0, p1, q0, q1]) rfl ⟨x, y, u, v, ⟨HX.out, HY.out⟩, ⟨HU.out, HV.out⟩, rfl, ?_⟩
    repeat (first | with_reducible exact HB3.out | refine Below.setCell ?_ (by simp <;> omega) _)
theorem numMk (y : Int) (h : y ∈ [(0 : Int), 6, 1000000000, -1000000000, 1000000001, -9223372036854775808]) : IsI64 y := (show ∀ y ∈ [(0 : Int), 6, 1000000000, -1000000000, 1000000001, -9223372036854775808], IsI64 y by unfold IsI64; decide) y h
theorem denMk (y : Int) (h : y ∈ [(0 : Int), -4, 1000000000, -1000000001, 9223372036854775807]) : IsI64 y := (show ∀ y ∈ [(0 : Int), -4, 1000000000, -1000000001, 9223372036854775807], IsI64 y by unfold IsI64; decide) y h
set_option maxHeartbeats 800000 in
theorem drawMk_any (W : World) (a : Option Addr) (len cap : Nat) (hl : len ≤ 1048576) (hc : CodeAt W W.heap.size a len) : Calls Try.prog 18 #[.slice a len cap] W (GotII W) := by
  have HK := Lib.hid hc
  clear hc
  go_enter Try.func18, Try.ntmps18
  go_wp2_with fail
  go_at_call 28
  refine (new_any _ a len cap hl HK.out).mono ?_
  rintro e w1 ⟨rfl, hc1, hb1, hz1⟩
  have HC1 := Lib.hid hc1
  have HB1 := Lib.hid hb1
  clear hc1 hb1
  go_wp2_with fail
  go_at_call 37
  refine (once_any _ _ 4 (by decide) HC1.out).mono ?_
  rintro e w2 ⟨u, rfl, hc2, hg2⟩
  have HC2 := Lib.hid hc2
  have HB2 := Lib.hid (below_grown4 HB1.out hg2 (Nat.le_refl _))
  clear hc2 hg2
  cases u
  · go_wp2_with fail
    go_at_call 39
    refine (below_any _ _ 60 (by decide) HC2.out).mono ?_
    rintro e w3 ⟨x, ⟨hx0, hx1⟩, rfl, hc3, hg3⟩
    have hx2 : x ≤ 60 := by omega
    have HC3 := Lib.hid hc3
    have HB3 := Lib.hid (below_grown4 HB2.out hg3 (Nat.le_refl _))
    clear hc3 hg3 hx1
    go_wp2_with fail
    go_at_call 39
    refine (below_any _ _ 30 (by decide) HC3.out).mono ?_
    rintro e w4 ⟨y, ⟨hy0, hy1⟩, rfl, hc4, hg4⟩
    have hy2 : y ≤ 30 := by omega
    have HB4 := Lib.hid (below_grown4 HB3.out hg4 (Nat.le_refl _))
    clear hc4 hg4 hy1
    go_wp2_with fail
    go_ret2
    exact ⟨_, _, ⟨by omega, by omega⟩, ⟨by omega, by omega⟩, rfl, HB4.out⟩
  · go_wp2_with fail
    go_at_call 38
    refine (int_new _ _ 6 [0, 6, 1000000000, -1000000000, 1000000001, -9223372036854775808] _ _ rfl rfl (by decide) (by decide) HC2.out).mono ?_
    rintro e w3 ⟨x, hx, rfl, hc3, hg3⟩
    have HX := Lib.hid (numMk x hx)
    have HC3 := Lib.hid hc3
    have HB3 := Lib.hid (below_grown4 HB2.out hg3 (Nat.le_refl _))
    clear hc3 hg3 hx
    go_wp2_with fail
    go_at_call 38
    refine (int_new _ _ 5 [0, -4, 1000000000, -1000000001, 9223372036854775807] _ _ rfl rfl (by decide) (by decide) HC3.out).mono ?_
    rintro e w4 ⟨y, hy, rfl, hc4, hg4⟩
    have HY := Lib.hid (denMk y hy)
    have HB4 := Lib.hid (below_grown4 HB3.out hg4 (Nat.le_refl _))
    clear hc4 hg4 hy
    go_wp2_with fail
    go_ret2
    exact ⟨_, _, HX.out, HY.out, rfl, HB4.out⟩
end Go.Proofs.Ytecmfipedpfoaaa
