/- The draws of chapter 4's laws: fractions. -/
import Derived.Test.YtecmfipedpfoaaaPair
import Derived.Test.YtecmfipedpfoaaaDrawNum
import Derived.Test.YtecmfipedpfoaaaRatA
namespace Go.Proofs.Ytecmfipedpfoaaa
open Go.RowKit
theorem mk_bd (n d : Int) : -1000000000 ≤ mkN n d ∧ mkN n d ≤ 1000000000 ∧ 0 ≤ mkD n d ∧ mkD n d ≤ 1000000000 := by
  by_cases h : MkOk n d
  · have v := mk_valid h
    exact ⟨v.1, v.2.1, by have := v.2.2.1; omega, v.2.2.2.1⟩
  · rw [(mk_no h).1, (mk_no h).2]
    omega
/-- What a draw of a fraction leaves. -/
def DrewR (B : Nat) (w : World) (e : Ending) (w' : World) : Prop := ∃ x y : Int, IsI64 x ∧ IsI64 y ∧ e = .returned (.agg #[.int .i64 x, .int .i64 y]) ∧ Cur w' B ∧ w.grownBy w' (some B)
/-- A made fraction, its bounds told. -/
def RatB (w : World) (e : Ending) (w' : World) : Prop := ∃ (x y : Int) (t : Bool), (-1000000000 ≤ x ∧ x ≤ 1000000000) ∧ (0 ≤ y ∧ y ≤ 1000000000) ∧ e = .returned (.tuple #[.agg #[.int .i64 x, .int .i64 y], .bool t]) ∧ Below w.heap.size w w'
theorem specMkB_any (n d : Int) (w : World) (h0 : -4000000000000000000 ≤ n) (h1 : n ≤ 4000000000000000000) (h2 : -4000000000000000000 ≤ d) (h3 : d ≤ 4000000000000000000) :
    Calls Try.prog 32 #[.int .i64 n, .int .i64 d] w (RatB w) :=
  (specMk_any n d w h0 h1 h2 h3).mono fun _ _ ⟨he, hb⟩ => have b := mk_bd n d; ⟨_, _, _, ⟨b.1, b.2.1⟩, ⟨b.2.2.1, b.2.2.2⟩, he, hb⟩
theorem num_list (y : Int) (h : y ∈ [(1000000000 : Int), -1000000000, 999999999, 1]) : -1000000000 ≤ y ∧ y ≤ 1000000000 := (show ∀ y ∈ [(1000000000 : Int), -1000000000, 999999999, 1], -1000000000 ≤ y ∧ y ≤ 1000000000 by decide) y h
theorem den_list (y : Int) (h : y ∈ [(1 : Int), 999999999, 1000000000, 7]) : 1 ≤ y ∧ y ≤ 1000000000 := (show ∀ y ∈ [(1 : Int), 999999999, 1000000000, 7], 1 ≤ y ∧ y ≤ 1000000000 by decide) y h
set_option maxHeartbeats 1600000 in
theorem ratDraw_any (W : World) (B : Nat) (hc : Cur W B) : Calls Try.prog 43 #[.pointer (some ⟨B, 0, none⟩)] W (DrewR B W) := by
  have HC0 := Lib.hid hc
  have hB := hc.lt
  clear hc
  go_enter Try.func43, Try.ntmps43
  go_wp2_with fail
  go_at_call 39
  refine (below_any _ B 41 (by decide) (HC0.out.alloc _)).mono ?_
  rintro e w1 ⟨x1, ⟨hx0, hx1⟩, rfl, hc1, hg1⟩
  have hx2 : x1 ≤ 40 := by omega
  have HC1 := Lib.hid hc1
  have HR1 := Lib.hid ((pair_new W 0 0 25).grown hg1 (by omega))
  have HG1 := Lib.hid (grown_trans (World.grownBy_alloc W _ _) hg1)
  clear hc1 hg1 hx1
  go_wp2_with fail
  go_at_call 39
  refine (below_any _ B 12 (by decide) HC1.out).mono ?_
  rintro e w2 ⟨x2, ⟨hy0, hy1⟩, rfl, hc2, hg2⟩
  have hy2 : x2 ≤ 11 := by omega
  have HC2 := Lib.hid hc2
  have HR2 := Lib.hid (HR1.out.grown hg2 (by omega))
  have HG2 := Lib.hid (grown_trans HG1.out hg2)
  clear hc2 hg2 hy1
  go_wp2_with fail
  go_at_call 32
  refine (specMkB_any _ _ _ (by omega) (by omega) (by omega) (by omega)).mono ?_
  rintro e w3 ⟨n, d, t, ⟨hn0, hn1⟩, ⟨hd0, hd1⟩, rfl, hb3⟩
  have HC3 := Lib.hid (HC2.out.belowN hb3)
  have HR3 := Lib.hid (HR2.out.below hb3)
  have HG3 := Lib.hid (grown_trans HG2.out (grown_of_below hb3 _))
  have hz3 := HR3.out.lt
  clear hb3
  go_wp2_with fail
  go_at_call 37
  refine (once_any _ B 6 (by decide) (HC3.out.alloc _)).mono ?_
  rintro e w4 ⟨u, rfl, hc4, hg4⟩
  have HC4 := Lib.hid hc4
  have HR4 := Lib.hid ((HR3.out.alloc _).grown hg4 (by omega))
  have HT4 := Lib.hid ((pair_new w3 n d 25).grown hg4 (by omega))
  have HG4 := Lib.hid (grown_trans (grown_newalloc HG3.out _) hg4)
  clear hc4 hg4
  cases u
  · have r0 := HR4.out.c0
    have r1 := HR4.out.c1
    have q0 := HR4.out.f0
    have q1 := HR4.out.f1
    have t0 := HT4.out.c0
    have t1 := HT4.out.c1
    go_wp2
    refine bodyPost_ret (v := .agg #[.int .i64 n, .int .i64 d]) (by simp [results, Try.results43, go_sem, r0, r1]) rfl ⟨n, d, ⟨by omega, by omega⟩, ⟨by omega, by omega⟩, rfl, ?_, ?_⟩
    · exact (HC4.out.kept (grown_setCell _ W.heap.size _ _) (fun k e => by cases e; exact hB)).kept (grown_setCell _ W.heap.size _ _) (fun k e => by cases e; exact hB)
    · exact grown_newset (grown_newset HG4.out _ (Nat.le_refl _)) _ (Nat.le_refl _)
  · go_wp2_with fail
    go_at_call 38
    refine (int_new _ B 4 [1000000000, -1000000000, 999999999, 1] _ _ rfl rfl (by decide) (by decide) HC4.out).mono ?_
    rintro e w5 ⟨n2, hn2, rfl, hc5, hg5⟩
    obtain ⟨hm0, hm1⟩ := num_list n2 hn2
    have HC5 := Lib.hid hc5
    have HR5 := Lib.hid (HR4.out.grown hg5 (by omega))
    have HT5 := Lib.hid (HT4.out.grown hg5 (by omega))
    have HG5 := Lib.hid (grown_trans HG4.out hg5)
    clear hc5 hg5 hn2
    go_wp2_with fail
    go_at_call 38
    refine (int_new _ B 4 [1, 999999999, 1000000000, 7] _ _ rfl rfl (by decide) (by decide) HC5.out).mono ?_
    rintro e w6 ⟨d2, hd2, rfl, hc6, hg6⟩
    obtain ⟨he0, he1⟩ := den_list d2 hd2
    have HC6 := Lib.hid hc6
    have HR6 := Lib.hid (HR5.out.grown hg6 (by omega))
    have HT6 := Lib.hid (HT5.out.grown hg6 (by omega))
    have HG6 := Lib.hid (grown_trans HG5.out hg6)
    clear hc6 hg6 hd2
    go_wp2_with fail
    go_at_call 32
    refine (specMkB_any _ _ _ (by omega) (by omega) (by omega) (by omega)).mono ?_
    rintro e w7 ⟨n3, d3, t3, ⟨hp0, hp1⟩, ⟨hq0, hq1⟩, rfl, hb7⟩
    have HC7 := Lib.hid (HC6.out.belowN hb7)
    have HR7 := Lib.hid (HR6.out.below hb7)
    have HT7 := Lib.hid (HT6.out.below hb7)
    have HG7 := Lib.hid (grown_trans HG6.out (grown_of_below hb7 _))
    have r0 := HR7.out.c0
    have r1 := HR7.out.c1
    have q0 := HR7.out.f0
    have q1 := HR7.out.f1
    have t0 := HT7.out.c0
    have t1 := HT7.out.c1
    have s0 := HT7.out.f0
    have s1 := HT7.out.f1
    have hne : W.heap.size ≠ w3.heap.size := by omega
    have hw3 : W.heap.size ≤ w3.heap.size := by omega
    have hB3 : B < w3.heap.size := by omega
    clear hb7
    go_wp2
    refine bodyPost_ret (v := .agg #[.int .i64 n3, .int .i64 d3]) (by simp [results, Try.results43, go_sem, r0, r1]) rfl ⟨n3, d3, ⟨by omega, by omega⟩, ⟨by omega, by omega⟩, rfl, ?_, ?_⟩
    · repeat (first | with_reducible exact HC7.out | refine Cur.kept ?_ (grown_setCell _ _ _ _) (fun k e => by cases e; omega))
    · repeat (first | with_reducible exact HG7.out | refine grown_newset ?_ _ (by omega))
set_option maxHeartbeats 1600000 in
theorem ratAny_any (W : World) (B : Nat) (hc : Cur W B) : Calls Try.prog 29 #[.pointer (some ⟨B, 0, none⟩)] W (DrewR B W) := by
  have HC0 := Lib.hid hc
  have hB := hc.lt
  clear hc
  go_enter Try.func29, Try.ntmps29
  go_wp2_with fail
  go_at_call 43
  refine (ratDraw_any _ B (HC0.out.alloc _)).mono ?_
  rintro e w1 ⟨n, d, hn, hd, rfl, hc1, hg1⟩
  have HN := Lib.hid hn
  have HD := Lib.hid hd
  have HC1 := Lib.hid hc1
  have HR1 := Lib.hid ((pair_new W 0 0 25).grown hg1 (by omega))
  have HG1 := Lib.hid (grown_trans (World.grownBy_alloc W _ _) hg1)
  have hz1 := HR1.out.lt
  clear hc1 hg1 hn hd
  go_wp2_with fail
  go_at_call 39
  refine (below_any _ B 9 (by decide) (HC1.out.alloc _)).mono ?_
  rintro e w2 ⟨k, ⟨hk0, hk1⟩, rfl, hc2, hg2⟩
  have hk2 : k ≤ 8 := by omega
  have HC2 := Lib.hid hc2
  have HR2 := Lib.hid ((HR1.out.alloc _).grown hg2 (by omega))
  have HT2 := Lib.hid ((pair_new w1 n d 25).grown hg2 (by omega))
  have HG2 := Lib.hid (grown_trans (grown_newalloc HG1.out _) hg2)
  have hne : W.heap.size ≠ w1.heap.size := by omega
  have hw1 : W.heap.size ≤ w1.heap.size := by omega
  have hB1 : B < w1.heap.size := by omega
  clear hc2 hg2 hk1
  by_cases h0 : k = 0
  · subst h0
    go_wp2_with fail
    go_at_call 38
    refine (int_new _ B 4 [0, -1, 1000000001, 9223372036854775807] _ _ rfl rfl (by decide) (by decide) HC2.out).mono ?_
    rintro e w3 ⟨v, hv, rfl, hc3, hg3⟩
    have HV := Lib.hid ((show ∀ y ∈ ([0, -1, 1000000001, 9223372036854775807] : List Int), IsI64 y by unfold IsI64; decide) _ hv)
    have HC3 := Lib.hid hc3
    have HR3 := Lib.hid (HR2.out.grown hg3 (by omega))
    have HT3 := Lib.hid (HT2.out.grown hg3 (by omega))
    have HG3 := Lib.hid (grown_trans HG2.out hg3)
    clear hc3 hg3 hv
    have r0 := HR3.out.c0
    have r1 := HR3.out.c1
    have q0 := HR3.out.f0
    have q1 := HR3.out.f1
    have t0 := HT3.out.c0
    have t1 := HT3.out.c1
    have s0 := HT3.out.f0
    have s1 := HT3.out.f1
    go_wp2
    refine bodyPost_ret (v := .agg #[.int .i64 n, .int .i64 v]) (by simp [results, Try.results29, go_sem, r0, r1]) rfl ⟨n, v, HN.out, HV.out, rfl, ?_, ?_⟩
    · repeat (first | with_reducible exact HC3.out | refine Cur.kept ?_ (grown_setCell _ _ _ _) (fun k e => by cases e; omega))
    · repeat (first | with_reducible exact HG3.out | refine grown_newset ?_ _ (by omega))
  by_cases h1 : k = 1
  · subst h1
    go_wp2_with fail
    go_at_call 38
    refine (int_new _ B 3 [1000000001, -1000000001, -9223372036854775808] _ _ rfl rfl (by decide) (by decide) HC2.out).mono ?_
    rintro e w3 ⟨v, hv, rfl, hc3, hg3⟩
    have HV := Lib.hid ((show ∀ y ∈ ([1000000001, -1000000001, -9223372036854775808] : List Int), IsI64 y by unfold IsI64; decide) _ hv)
    have HC3 := Lib.hid hc3
    have HR3 := Lib.hid (HR2.out.grown hg3 (by omega))
    have HT3 := Lib.hid (HT2.out.grown hg3 (by omega))
    have HG3 := Lib.hid (grown_trans HG2.out hg3)
    clear hc3 hg3 hv
    have r0 := HR3.out.c0
    have r1 := HR3.out.c1
    have q0 := HR3.out.f0
    have q1 := HR3.out.f1
    have t0 := HT3.out.c0
    have t1 := HT3.out.c1
    have s0 := HT3.out.f0
    have s1 := HT3.out.f1
    go_wp2
    refine bodyPost_ret (v := .agg #[.int .i64 v, .int .i64 d]) (by simp [results, Try.results29, go_sem, r0, r1]) rfl ⟨v, d, HV.out, HD.out, rfl, ?_, ?_⟩
    · repeat (first | with_reducible exact HC3.out | refine Cur.kept ?_ (grown_setCell _ _ _ _) (fun k e => by cases e; omega))
    · repeat (first | with_reducible exact HG3.out | refine grown_newset ?_ _ (by omega))
  by_cases h2 : k = 2
  · subst h2
    have r0 := HR2.out.c0
    have r1 := HR2.out.c1
    have q0 := HR2.out.f0
    have q1 := HR2.out.f1
    have t0 := HT2.out.c0
    have t1 := HT2.out.c1
    have s0 := HT2.out.f0
    have s1 := HT2.out.f1
    go_wp2
    refine bodyPost_ret (v := .agg #[.int .i64 2, .int .i64 4]) (by simp [results, Try.results29, go_sem, r0, r1]) rfl ⟨2, 4, ⟨by decide, by decide⟩, ⟨by decide, by decide⟩, rfl, ?_, ?_⟩
    · repeat (first | with_reducible exact HC2.out | refine Cur.kept ?_ (grown_setCell _ _ _ _) (fun k e => by cases e; omega))
    · repeat (first | with_reducible exact HG2.out | refine grown_newset ?_ _ (by omega))
  · have h9 : 3 ≤ k := by omega
    have r0 := HR2.out.c0
    have r1 := HR2.out.c1
    have q0 := HR2.out.f0
    have q1 := HR2.out.f1
    have t0 := HT2.out.c0
    have t1 := HT2.out.c1
    have s0 := HT2.out.f0
    have s1 := HT2.out.f1
    go_wp2
    refine bodyPost_ret (v := .agg #[.int .i64 n, .int .i64 d]) (by simp [results, Try.results29, go_sem, r0, r1]) rfl ⟨n, d, HN.out, HD.out, rfl, ?_, ?_⟩
    · repeat (first | with_reducible exact HC2.out | refine Cur.kept ?_ (grown_setCell _ _ _ _) (fun k e => by cases e; omega))
    · repeat (first | with_reducible exact HG2.out | refine grown_newset ?_ _ (by omega))
end Go.Proofs.Ytecmfipedpfoaaa
