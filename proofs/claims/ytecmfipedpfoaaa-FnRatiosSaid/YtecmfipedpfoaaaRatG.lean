/- The general law on fractions: the difference. -/
import Derived.Test.YtecmfipedpfoaaaLawRat3
namespace Go.Proofs.Ytecmfipedpfoaaa
open Go.RowKit
theorem neg_i64 {c d : Int} : IsI64 (negN c d) ∧ IsI64 (negD c d) := by
  unfold negN negD IsI64
  by_cases h : IsR c d
  · rw [if_pos h, if_pos h]
    obtain ⟨h1, h2, h3, h4, _⟩ := h
    omega
  · rw [if_neg h, if_neg h]
    omega
set_option maxHeartbeats 1600000 in
theorem minus_any (a b c d : Int) (W : World) (ha : IsI64 a) (hb : IsI64 b) (hc : IsI64 c) (hd : IsI64 d) :
    Calls Try.prog 16 #[.agg #[.int .i64 a, .int .i64 b], .agg #[.int .i64 c, .int .i64 d]] W (RatRes (addN a b (negN c d) (negD c d)) (addD a b (negN c d) (negD c d)) (addOk a b (negN c d) (negD c d)) W) := by
  have HA := Lib.hid ha
  have HBB := Lib.hid hb
  have HC := Lib.hid hc
  have HD := Lib.hid hd
  have HN := Lib.hid (neg_i64 (c := c) (d := d))
  obtain ⟨u, hu⟩ : ∃ u, u = negN c d := ⟨_, rfl⟩
  obtain ⟨v, hv⟩ : ∃ v, v = negD c d := ⟨_, rfl⟩
  rw [← hu, ← hv] at HN ⊢
  have HU := Lib.hid hu
  have HV := Lib.hid hv
  clear ha hb hc hd hu hv
  go_enter Try.func16, Try.ntmps16
  go_wp2_with fail
  obtain ⟨W0, hW0⟩ : ∃ W0, W0 = ((W.alloc (.cells #[.int .i64 a, .int .i64 b] 25)).alloc (.cells #[.int .i64 c, .int .i64 d] 25)).alloc (.cells #[.int .i64 0, .int .i64 0] 25) := ⟨_, rfl⟩
  have HP := Lib.hid (show PairAt W0 W.heap.size a b by rw [hW0]; exact ((pair_new W a b _).alloc _).alloc _)
  have HQ := Lib.hid (show PairAt W0 (W.heap.size + 1) c d by rw [hW0]; have := (pair_new (W.alloc (.cells #[.int .i64 a, .int .i64 b] 25)) c d 25).alloc (.cells #[.int .i64 0, .int .i64 0] 25); simpa using this)
  have HR := Lib.hid (show PairAt W0 (W.heap.size + 2) 0 0 by rw [hW0]; have := pair_new ((W.alloc (.cells #[.int .i64 a, .int .i64 b] 25)).alloc (.cells #[.int .i64 c, .int .i64 d] 25)) 0 0 25; simpa using this)
  have HW := Lib.hid (show Below W.heap.size W W0 by rw [hW0]; exact below_allocW (below_allocW (below_allocW (Below.refl _ _) _) _) _)
  rw [← hW0]
  clear hW0
  have p0 := HP.out.c0
  have p1 := HP.out.c1
  have q0 := HQ.out.c0
  have q1 := HQ.out.c1
  have e1 : W.heap.size + 2 ≠ W.heap.size := by omega
  have e2 : W.heap.size + 2 ≠ W.heap.size + 1 := by omega
  have e3 : W.heap.size ≠ W.heap.size + 2 := by omega
  have e4 : W.heap.size + 1 ≠ W.heap.size + 2 := by omega
  go_region_held3 (fun w' => (w'.cell? ⟨W.heap.size, 0, none⟩ = some (.int .i64 a) ∧ w'.cell? ⟨W.heap.size, 1, none⟩ = some (.int .i64 b)) ∧ (w'.cell? ⟨W.heap.size + 1, 0, none⟩ = some (.int .i64 c) ∧ w'.cell? ⟨W.heap.size + 1, 1, none⟩ = some (.int .i64 d))) (go_keep) (first
    | (go_at_call 26; refine (negRat_any c d _ HC.out HD.out).mono ?_; rw [← HU.out, ← HV.out]; rintro e w1 ⟨rfl, hb⟩; have HB1 := Lib.hid (below_up (Below.refl W0.heap.size W0).drew hb (Nat.le_refl _)); have p0 := (HP.out.below HB1.out).c0; have p1 := (HP.out.below HB1.out).c1; have q0 := (HQ.out.below HB1.out).c0; have q1 := (HQ.out.below HB1.out).c1; clear hb)
    | (go_at_call 12; refine (addRat_any a b u v _ HA.out HBB.out HN.out.1 HN.out.2).mono ?_; rintro e w2 ⟨rfl, hb⟩; have HB2 := Lib.hid (below_up HB1.out hb (Nat.le_refl _)); have p0 := (HP.out.below HB2.out).c0; have p1 := (HP.out.below HB2.out).c1; have q0 := (HQ.out.below HB2.out).c0; have q1 := (HQ.out.below HB2.out).c1; have r0 := (HR.out.below HB2.out).c0; have r1 := (HR.out.below HB2.out).c1; have r2 := (HR.out.below HB2.out).f0; have r3 := (HR.out.below HB2.out).f1; clear hb))
  have HF := Lib.hid (HW.out.trans (HB2.out.mono HW.out.size))
  go_wp2
  refine bodyPost_ret (v := .tuple #[.agg #[.int .i64 (addN a b u v), .int .i64 (addD a b u v)], .bool (addOk a b u v)]) (by simp [results, Try.results16, go_sem, r0, r1]) rfl ⟨rfl, ?_⟩
  repeat (first | with_reducible exact HF.out | refine Below.setCell ?_ (by simp <;> omega) _)
end Go.Proofs.Ytecmfipedpfoaaa
