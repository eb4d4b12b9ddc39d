/- The program's chapter on clocks. -/
import Derived.Test.YtiehnhocmoodaaaIvA
import Derived.Test.YtiehnhocmoodaaaDraw
import Derived.Test.YtiehnhocmoodaaaRow
namespace Go.Proofs.Ytiehnhocmoodaaa
open Go.RowKit
theorem isV_no {x y : Int} (h : ¬ (-100000 ≤ x ∧ y ≤ 100000 ∧ x ≤ y)) : isV x y = false := by
  cases hv : isV x y
  · rfl
  · exact absurd (isV_true.1 hv) h
theorem ivQ_any (x y : Int) (w : World) : Calls Try.prog 17 #[.agg #[.int .i64 x, .int .i64 y]] w fun e w' => e = .returned (.bool (isV x y)) ∧ Below w.heap.size w w' := by
  by_cases h1 : -100000 ≤ x
  · by_cases h2 : x ≤ y
    · have HE : Hid (decide (y ≤ 100000) = isV x y) := Lib.hid (by
        by_cases h3 : y ≤ 100000
        · rw [decide_eq_true h3, isV_true.2 ⟨h1, h3, h2⟩]
        · rw [decide_eq_false h3, isV_no (by omega)])
      go_enter Try.func17, Try.ntmps17
      go_wp2
      go_ret
      exact ⟨ret_bool HE.out, (Below.refl _ _).alloc (Nat.le_refl _) _⟩
    · have HE : Hid (false = isV x y) := Lib.hid (isV_no (by omega)).symm
      go_enter Try.func17, Try.ntmps17
      go_wp2
      go_ret
      exact ⟨ret_bool HE.out, (Below.refl _ _).alloc (Nat.le_refl _) _⟩
  · have HE : Hid (false = isV x y) := Lib.hid (isV_no (by omega)).symm
    go_enter Try.func17, Try.ntmps17
    go_wp2
    go_ret
    exact ⟨ret_bool HE.out, (Below.refl _ _).alloc (Nat.le_refl _) _⟩
theorem widQ_any (x y : Int) (w : World) : Calls Try.prog 13 #[.agg #[.int .i64 x, .int .i64 y]] w fun e w' => e = .returned (.int .i64 (widV x y)) ∧ Below w.heap.size w w' := by
  obtain ⟨V, hV⟩ : ∃ V, V = w.alloc (.cells #[.int .i64 x, .int .i64 y] 26) := ⟨_, rfl⟩
  have HP := Lib.hid (show PairAt V w.heap.size x y by rw [hV]; exact pair_new w x y _)
  have HB := Lib.hid (show Below w.heap.size w V by rw [hV]; exact (Below.refl _ _).alloc (Nat.le_refl _) _)
  have p0 := HP.out.c0
  have p1 := HP.out.c1
  cases h1 : isV x y
  · have H1 := Lib.hid h1
    have HE : Hid (-1 = widV x y) := Lib.hid (by unfold widV; rw [h1]; rfl)
    clear h1
    go_enter Try.func13, Try.ntmps13
    go_wp2_with fail
    rw [← hV]
    clear hV
    go_wp2_with (go_at_call 17; refine (ivQ_any x y _).mono ?_; rw [H1.out]; rintro e v ⟨rfl, hb⟩; have HB := Lib.hid (below_up HB.out hb (by have := HB.out.size; omega)); clear hb)
    go_ret
    exact ⟨ret_int HE.out, HB.out⟩
  · have H1 := Lib.hid h1
    have HE : Hid (y - x = widV x y) := Lib.hid (by unfold widV; rw [h1]; rfl)
    obtain ⟨b1, b2, b3⟩ := isV_true.1 h1
    have w1 : IntKind.i64.wrap (y - x) = y - x := IntWalk.i64_in _ (by omega)
    clear h1 b1 b2 b3
    go_enter Try.func13, Try.ntmps13
    go_wp2_with fail
    rw [← hV]
    clear hV
    go_wp2_with (go_at_call 17; refine (ivQ_any x y _).mono ?_; rw [H1.out]; rintro e v ⟨rfl, hb⟩; have HP := Lib.hid (HP.out.below hb); have HB := Lib.hid (below_up HB.out hb (by have := HB.out.size; omega)); have p0 := HP.out.c0; have p1 := HP.out.c1; clear hb)
    go_ret
    exact ⟨ret_int HE.out, HB.out⟩
/-- The program's interval from two bounds. -/
def ivLo (x y : Int) : Int := if isV x y = true then x else 0
def ivHi (x y : Int) : Int := if isV x y = true then y else 0
set_option maxHeartbeats 1600000 in
theorem fromQ_any (x y : Int) (W : World) : Calls Try.prog 31 #[.int .i64 x, .int .i64 y] W (IvRes (ivLo x y) (ivHi x y) (isV x y) W) := by
  obtain ⟨V, hV⟩ : ∃ V, V = (W.alloc (.cells #[.int .i64 0, .int .i64 0] 26)).alloc (.cells #[.int .i64 x, .int .i64 y] 26) := ⟨_, rfl⟩
  have HB := Lib.hid (show Below W.heap.size W V by rw [hV]; exact ((Below.refl _ _).alloc (Nat.le_refl _) _).alloc (by simp) _)
  have HR := Lib.hid (show PairAt V W.heap.size 0 0 by rw [hV]; exact (pair_new W 0 0 _).alloc _)
  have HP := Lib.hid (show PairAt V (W.heap.size + 1) x y by rw [hV]; have h := pair_new (W.alloc (.cells #[.int .i64 0, .int .i64 0] 26)) x y 26; rw [World.size_alloc] at h; exact h)
  have p0 := HP.out.c0
  have p1 := HP.out.c1
  obtain ⟨lo, hlo⟩ : ∃ r, r = ivLo x y := ⟨_, rfl⟩
  obtain ⟨hi, hhi⟩ : ∃ r, r = ivHi x y := ⟨_, rfl⟩
  rw [← hlo, ← hhi]
  cases h1 : isV x y
  · have H1 := Lib.hid h1
    have HE : Hid (lo = 0 ∧ hi = 0) := Lib.hid (by rw [hlo, hhi]; unfold ivLo ivHi; rw [h1]; exact ⟨rfl, rfl⟩)
    clear h1 hlo hhi
    go_enter Try.func31, Try.ntmps31
    go_wp2_with fail
    rw [← hV]
    clear hV
    go_wp2_with (go_at_call 17; refine (ivQ_any x y _).mono ?_; rw [H1.out]; rintro e v ⟨rfl, hb⟩; have HR := Lib.hid (HR.out.below hb); have HB := Lib.hid (below_up HB.out hb (by have := HB.out.size; omega)); have r0 := HR.out.c0; have r1 := HR.out.c1; have s0 := HR.out.f0; have s1 := HR.out.f1; clear hb)
    refine bodyPost_ret (v := .tuple #[.agg #[.int .i64 0, .int .i64 0], .bool false]) (by simp [results, Try.results31, go_sem, r0, r1]) rfl ⟨by rw [HE.out.1, HE.out.2], ?_⟩
    repeat (first | exact HB.out | refine Below.setCell ?_ (by simp <;> omega) _)
  · have H1 := Lib.hid h1
    have HE : Hid (lo = x ∧ hi = y) := Lib.hid (by rw [hlo, hhi]; unfold ivLo ivHi; rw [h1]; exact ⟨rfl, rfl⟩)
    clear h1 hlo hhi
    go_enter Try.func31, Try.ntmps31
    go_wp2_with fail
    rw [← hV]
    clear hV
    go_wp2_with (go_at_call 17; refine (ivQ_any x y _).mono ?_; rw [H1.out]; rintro e v ⟨rfl, hb⟩; have HR := Lib.hid (HR.out.below hb); have HP := Lib.hid (HP.out.below hb); have HB := Lib.hid (below_up HB.out hb (by have := HB.out.size; omega)); have r0 := HR.out.c0; have r1 := HR.out.c1; have s0 := HR.out.f0; have s1 := HR.out.f1; have p0 := HP.out.c0; have p1 := HP.out.c1; clear hb)
    refine bodyPost_ret (v := .tuple #[.agg #[.int .i64 x, .int .i64 y], .bool true]) (by simp [results, Try.results31, go_sem, r0, r1]) rfl ⟨by rw [HE.out.1, HE.out.2], ?_⟩
    repeat (first | exact HB.out | refine Below.setCell ?_ (by simp <;> omega) _)
theorem isStP_any (n : Int) (w : World) : Calls Try.prog 32 #[.int .i64 n] w fun e w' => e = .returned (.bool (inR n 0 100000)) ∧ w = w' := by
  go_enter Try.func32, Try.ntmps32
  go_wp2_with (go_at_call 43; refine (inRange_any _ _ _ _).mono ?_; rintro e w' ⟨rfl, rfl⟩)
  go_ret
  exact ⟨rfl, rfl⟩
theorem andB4 {a b c d : Bool} : (a && (b && (c && d))) = true ↔ a = true ∧ b = true ∧ c = true ∧ d = true := by cases a <;> cases b <;> cases c <;> cases d <;> simp
set_option maxHeartbeats 1600000 in
theorem areStQ_any (s r b h : Int) (W : World) : Calls Try.prog 30 #[.agg #[.int .i64 s, .int .i64 r, .int .i64 b, .int .i64 h]] W fun e w' => e = .returned (.bool (inR s 0 100000 && (inR r 0 100000 && (inR b 0 100000 && inR h 0 100000)))) ∧ Below W.heap.size W w' := by
  obtain ⟨t, ht⟩ : ∃ t, t = (inR s 0 100000 && (inR r 0 100000 && (inR b 0 100000 && inR h 0 100000))) := ⟨_, rfl⟩
  rw [← ht]
  have HT := Lib.hid ht
  clear ht
  obtain ⟨V, hV⟩ : ∃ V, V = W.alloc (.cells #[.int .i64 s, .int .i64 r, .int .i64 b, .int .i64 h] 49) := ⟨_, rfl⟩
  have HB := Lib.hid (show Below W.heap.size W V by rw [hV]; exact (Below.refl _ _).alloc (Nat.le_refl _) _)
  have i0 : ∀ w, (Instr.index 49 (.agg #[.int .i64 s, .int .i64 r, .int .i64 b, .int .i64 h]) (.int .i64 0)).run Try.prog w = .ok (.int .i64 s) w := fun _ => by kernel_rfl
  have i1 : ∀ w, (Instr.index 49 (.agg #[.int .i64 s, .int .i64 r, .int .i64 b, .int .i64 h]) (.int .i64 1)).run Try.prog w = .ok (.int .i64 r) w := fun _ => by kernel_rfl
  have i2 : ∀ w, (Instr.index 49 (.agg #[.int .i64 s, .int .i64 r, .int .i64 b, .int .i64 h]) (.int .i64 2)).run Try.prog w = .ok (.int .i64 b) w := fun _ => by kernel_rfl
  have i3 : ∀ w, (Instr.index 49 (.agg #[.int .i64 s, .int .i64 r, .int .i64 b, .int .i64 h]) (.int .i64 3)).run Try.prog w = .ok (.int .i64 h) w := fun _ => by kernel_rfl
  go_enter Try.func30, Try.ntmps30
  go_wp2_with fail
  rw [← hV]
  clear hV
  go_loop [4, 6] (fun _ i => i = .int .i64 0 ∨ (i = .int .i64 1 ∧ Hid (inR s 0 100000 = true)) ∨ (i = .int .i64 2 ∧ Hid (inR s 0 100000 = true ∧ inR r 0 100000 = true)) ∨ (i = .int .i64 3 ∧ Hid (inR s 0 100000 = true ∧ inR r 0 100000 = true ∧ inR b 0 100000 = true)) ∨ (i = .int .i64 4 ∧ Hid (inR s 0 100000 = true ∧ inR r 0 100000 = true ∧ inR b 0 100000 = true ∧ inR h 0 100000 = true))) (fun _ i => 4 - (intOf i).toNat)
  case atStart => exact Or.inl rfl
  case round =>
    rcases hrel with rfl | ⟨rfl, H⟩ | ⟨rfl, H⟩ | ⟨rfl, H⟩ | ⟨rfl, H⟩
    · cases h0 : inR s 0 100000
      · have H0 := Lib.hid h0
        have HE : Hid (t = false) := Lib.hid (by rw [HT.out, h0]; rfl)
        clear h0
        go_wp2_with (go_at_call 32; refine (isStP_any _ _).mono ?_; rw [H0.out]; rintro e v ⟨rfl, rfl⟩)
        go_ret
        exact ⟨ret_bool HE.out.symm, HB.out⟩
      · have H0 := Lib.hid h0
        clear h0
        go_wp2_with (go_at_call 32; refine (isStP_any _ _).mono ?_; rw [H0.out]; rintro e v ⟨rfl, rfl⟩)
        go_round
        case rel => exact Or.inr (Or.inl ⟨rfl, Lib.hid trivial⟩)
        case measure => simp [intOf]
    · cases h0 : inR r 0 100000
      · have H0 := Lib.hid h0
        have HE : Hid (t = false) := Lib.hid (by rw [HT.out, h0, H.out]; rfl)
        clear h0
        go_wp2_with (go_at_call 32; refine (isStP_any _ _).mono ?_; rw [H0.out]; rintro e v ⟨rfl, rfl⟩)
        go_ret
        exact ⟨ret_bool HE.out.symm, HB.out⟩
      · have H0 := Lib.hid h0
        clear h0
        go_wp2_with (go_at_call 32; refine (isStP_any _ _).mono ?_; rw [H0.out]; rintro e v ⟨rfl, rfl⟩)
        go_round
        case rel => exact Or.inr (Or.inr (Or.inl ⟨rfl, Lib.hid ⟨H.out, trivial⟩⟩))
        case measure => simp [intOf]
    · cases h0 : inR b 0 100000
      · have H0 := Lib.hid h0
        have HE : Hid (t = false) := Lib.hid (by rw [HT.out, h0, H.out.1, H.out.2]; rfl)
        clear h0
        go_wp2_with (go_at_call 32; refine (isStP_any _ _).mono ?_; rw [H0.out]; rintro e v ⟨rfl, rfl⟩)
        go_ret
        exact ⟨ret_bool HE.out.symm, HB.out⟩
      · have H0 := Lib.hid h0
        clear h0
        go_wp2_with (go_at_call 32; refine (isStP_any _ _).mono ?_; rw [H0.out]; rintro e v ⟨rfl, rfl⟩)
        go_round
        case rel => exact Or.inr (Or.inr (Or.inr (Or.inl ⟨rfl, Lib.hid ⟨H.out.1, H.out.2, trivial⟩⟩)))
        case measure => simp [intOf]
    · cases h0 : inR h 0 100000
      · have H0 := Lib.hid h0
        have HE : Hid (t = false) := Lib.hid (by rw [HT.out, h0, H.out.1, H.out.2.1, H.out.2.2]; rfl)
        clear h0
        go_wp2_with (go_at_call 32; refine (isStP_any _ _).mono ?_; rw [H0.out]; rintro e v ⟨rfl, rfl⟩)
        go_ret
        exact ⟨ret_bool HE.out.symm, HB.out⟩
      · have H0 := Lib.hid h0
        clear h0
        go_wp2_with (go_at_call 32; refine (isStP_any _ _).mono ?_; rw [H0.out]; rintro e v ⟨rfl, rfl⟩)
        go_round
        case rel => exact Or.inr (Or.inr (Or.inr (Or.inr ⟨rfl, Lib.hid ⟨H.out.1, H.out.2.1, H.out.2.2, trivial⟩⟩)))
        case measure => simp [intOf]
    · have HE : Hid (t = true) := Lib.hid (by rw [HT.out, H.out.1, H.out.2.1, H.out.2.2.1, H.out.2.2.2]; rfl)
      go_wp2
      go_ret
      exact ⟨ret_bool HE.out.symm, HB.out⟩
set_option maxHeartbeats 1600000 in
theorem offQ_any (s r b h : Int) (W : World) : Calls Try.prog 12 #[.int .i64 s, .int .i64 r, .int .i64 b, .int .i64 h] W (IvRes (offLo s r b h) (offHi s r b h) (offOk s r b h) W) := by
  obtain ⟨V, hV⟩ : ∃ V, V = W.alloc (.cells #[.int .i64 0, .int .i64 0] 26) := ⟨_, rfl⟩
  have HB := Lib.hid (show Below W.heap.size W V by rw [hV]; exact (Below.refl _ _).alloc (Nat.le_refl _) _)
  have HR := Lib.hid (show PairAt V W.heap.size 0 0 by rw [hV]; exact pair_new W 0 0 _)
  obtain ⟨lo, hlo⟩ : ∃ q, q = offLo s r b h := ⟨_, rfl⟩
  obtain ⟨hi, hhi⟩ : ∃ q, q = offHi s r b h := ⟨_, rfl⟩
  obtain ⟨t, ht⟩ : ∃ q, q = offOk s r b h := ⟨_, rfl⟩
  rw [← hlo, ← hhi, ← ht]
  cases h1 : (inR s 0 100000 && (inR r 0 100000 && (inR b 0 100000 && inR h 0 100000)))
  · have H1 := Lib.hid h1
    have h2 : offOk s r b h = false := by
      cases q : offOk s r b h
      · rfl
      · unfold offOk at q
        simp only [Bool.and_eq_true] at q
        rw [q.1, q.2.1, q.2.2.1, q.2.2.2.1] at h1
        cases h1
    have HE : Hid (lo = 0 ∧ hi = 0 ∧ t = false) := Lib.hid ⟨hlo.trans (off_no h2).1, hhi.trans (off_no h2).2, ht.trans h2⟩
    clear h1 h2 hlo hhi ht
    go_enter Try.func12, Try.ntmps12
    go_wp2_with fail
    rw [← hV]
    clear hV
    go_wp2_with (go_at_call 30; refine (areStQ_any s r b h _).mono ?_; rw [H1.out]; rintro e v ⟨rfl, hb⟩; have HR := Lib.hid (HR.out.below hb); have HB := Lib.hid (below_up HB.out hb (by have := HB.out.size; omega)); have r0 := HR.out.c0; have r1 := HR.out.c1; have s0 := HR.out.f0; have s1 := HR.out.f1; clear hb)
    refine bodyPost_ret (v := .tuple #[.agg #[.int .i64 0, .int .i64 0], .bool false]) (by simp [results, Try.results12, go_sem, r0, r1]) rfl ⟨by rw [HE.out.1, HE.out.2.1, HE.out.2.2], ?_⟩
    repeat (first | exact HB.out | refine Below.setCell ?_ (by simp <;> omega) _)
  · have H1 := Lib.hid h1
    obtain ⟨q1, q2, q3, q4⟩ := andB4.1 h1
    obtain ⟨b1, c1⟩ := inR_true.1 q1
    obtain ⟨b2, c2⟩ := inR_true.1 q2
    obtain ⟨b3, c3⟩ := inR_true.1 q3
    obtain ⟨b4, c4⟩ := inR_true.1 q4
    have h2 : offOk s r b h = isV (b - h) (r - s) := by
      unfold offOk
      rw [q1, q2, q3, q4]
      by_cases h5 : b - h ≤ r - s
      · rw [decide_eq_true h5, isV_true.2 ⟨by omega, by omega, h5⟩]
        rfl
      · rw [decide_eq_false h5, isV_no (by omega)]
        rfl
    have HE : Hid (lo = ivLo (b - h) (r - s) ∧ hi = ivHi (b - h) (r - s) ∧ t = isV (b - h) (r - s)) := Lib.hid ⟨by rw [hlo]; unfold offLo ivLo; rw [h2], by rw [hhi]; unfold offHi ivHi; rw [h2], ht.trans h2⟩
    obtain ⟨x, hx⟩ : ∃ x, x = b - h := ⟨_, rfl⟩
    obtain ⟨y, hy⟩ : ∃ y, y = r - s := ⟨_, rfl⟩
    rw [← hx, ← hy] at HE
    have w1 : IntKind.i64.wrap (b - h) = x := (IntWalk.i64_in _ (by omega)).trans hx.symm
    have w2 : IntKind.i64.wrap (r - s) = y := (IntWalk.i64_in _ (by omega)).trans hy.symm
    obtain ⟨p, hp⟩ : ∃ p, p = ivLo x y := ⟨_, rfl⟩
    obtain ⟨q, hq⟩ : ∃ q, q = ivHi x y := ⟨_, rfl⟩
    obtain ⟨k, hk⟩ : ∃ k, k = isV x y := ⟨_, rfl⟩
    rw [← hp, ← hq, ← hk] at HE
    have HP := Lib.hid hp
    have HQ := Lib.hid hq
    have HK := Lib.hid hk
    clear h1 h2 hlo hhi ht q1 q2 q3 q4 b1 c1 b2 c2 b3 c3 b4 c4 hx hy hp hq hk
    go_enter Try.func12, Try.ntmps12
    go_wp2_with fail
    rw [← hV]
    clear hV
    go_wp2_with (first
      | (go_at_call 30; refine (areStQ_any s r b h _).mono ?_; rw [H1.out]; rintro e v ⟨rfl, hb⟩; have HR := Lib.hid (HR.out.below hb); have HB := Lib.hid (below_up HB.out hb (by have := HB.out.size; omega)); clear hb)
      | (go_at_call 31; refine (fromQ_any x y _).mono ?_; rw [← HP.out, ← HQ.out, ← HK.out]; rintro e v2 ⟨rfl, hb⟩; have HR := Lib.hid (HR.out.below hb); have HB := Lib.hid (below_up HB.out hb (by have := HB.out.size; omega)); have r0 := HR.out.c0; have r1 := HR.out.c1; have s0 := HR.out.f0; have s1 := HR.out.f1; clear hb))
    refine bodyPost_ret (v := .tuple #[.agg #[.int .i64 p, .int .i64 q], .bool k]) (by simp [results, Try.results12, go_sem, r0, r1]) rfl ⟨by rw [HE.out.1, HE.out.2.1, HE.out.2.2], ?_⟩
    repeat (first | exact HB.out | refine Below.setCell ?_ (by simp <;> omega) _)
set_option maxRecDepth 20000 in
set_option maxHeartbeats 3200000 in
theorem meetQ_any (a b c d : Int) (W : World) : Calls Try.prog 21 #[.agg #[.int .i64 a, .int .i64 b], .agg #[.int .i64 c, .int .i64 d]] W (IvRes (meetLo a b c d) (meetHi a b c d) (meetOk a b c d) W) := by
  obtain ⟨x, hx⟩ : ∃ x, x = maxV a c := ⟨_, rfl⟩
  obtain ⟨y, hy⟩ : ∃ y, y = minV b d := ⟨_, rfl⟩
  have HMX := Lib.hid hx
  have HMY := Lib.hid hy
  obtain ⟨V, hV⟩ : ∃ V, V = ((W.alloc (.cells #[.int .i64 a, .int .i64 b] 26)).alloc (.cells #[.int .i64 c, .int .i64 d] 26)).alloc (.cells #[.int .i64 0, .int .i64 0] 26) := ⟨_, rfl⟩
  have HBV : Hid (Below W.heap.size W V) := Lib.hid (by rw [hV]; exact (((Below.refl _ _).alloc (Nat.le_refl _) _).alloc (by simp) _).alloc (by simp <;> omega) _)
  have HP := Lib.hid (show PairAt V W.heap.size a b by rw [hV]; exact ((pair_new W a b _).alloc _).alloc _)
  have HQ := Lib.hid (show PairAt V (W.heap.size + 1) c d by rw [hV]; have h := (pair_new (W.alloc (.cells #[.int .i64 a, .int .i64 b] 26)) c d 26).alloc (.cells #[.int .i64 0, .int .i64 0] 26); rw [World.size_alloc] at h; exact h)
  have HR := Lib.hid (show PairAt V (W.heap.size + 2) 0 0 by rw [hV]; have h := pair_new ((W.alloc (.cells #[.int .i64 a, .int .i64 b] 26)).alloc (.cells #[.int .i64 c, .int .i64 d] 26)) 0 0 26; rw [World.size_alloc, World.size_alloc] at h; exact h)
  have hz : V.heap.size = W.heap.size + 3 := by rw [hV]; simp
  have p0 := HP.out.c0
  have p1 := HP.out.c1
  have q0 := HQ.out.c0
  have q1 := HQ.out.c1
  have r0 := HR.out.c0
  have r1 := HR.out.c1
  have s0 := HR.out.f0
  have s1 := HR.out.f1
  obtain ⟨lo, hlo⟩ : ∃ r, r = meetLo a b c d := ⟨_, rfl⟩
  obtain ⟨hi, hhi⟩ : ∃ r, r = meetHi a b c d := ⟨_, rfl⟩
  obtain ⟨t, ht⟩ : ∃ r, r = meetOk a b c d := ⟨_, rfl⟩
  have he : meetOk a b c d = (isV a b && (isV c d && isV x y)) := by rw [hx, hy]; rfl
  have HNO : Hid (meetOk a b c d = false → lo = 0 ∧ hi = 0 ∧ t = false) := Lib.hid (fun h => ⟨hlo.trans (meet_no h).1, hhi.trans (meet_no h).2, ht.trans h⟩)
  have HOK := Lib.hid he
  rw [← hlo, ← hhi, ← ht]
  cases h1 : isV a b
  · have H1 := Lib.hid h1
    have HE := Lib.hid (HNO.out (by rw [HOK.out, h1]; rfl))
    clear h1 hx hy he hlo hhi ht
    go_enter Try.func21, Try.ntmps21
    go_wp2_with fail
    rw [← hV]
    clear hV
    go_wp2_with (go_at_call 17; refine (ivQ_any _ _ _).mono ?_; (first | rw [H1.out]); rintro e v ⟨rfl, hb⟩; have HB := Lib.hid (below_up HBV.out hb (by omega)); have HR := Lib.hid (HR.out.below hb); have r0 := HR.out.c0; have r1 := HR.out.c1; have s0 := HR.out.f0; have s1 := HR.out.f1; clear hb)
    refine bodyPost_ret (v := .tuple #[.agg #[.int .i64 0, .int .i64 0], .bool false]) (by simp [results, Try.results21, go_sem, r0, r1]) rfl ⟨by rw [HE.out.1, HE.out.2.1, HE.out.2.2], ?_⟩
    repeat (first | exact HB.out | refine Below.setCell ?_ (by simp <;> omega) _)
  · have H1 := Lib.hid h1
    cases h2 : isV c d
    · have H2 := Lib.hid h2
      have HE := Lib.hid (HNO.out (by rw [HOK.out, h1, h2]; rfl))
      clear h1 h2 hx hy he hlo hhi ht
      go_enter Try.func21, Try.ntmps21
      go_wp2_with fail
      rw [← hV]
      clear hV
      have HB := HBV
      go_wp2_with (go_at_call 17; refine (ivQ_any _ _ _).mono ?_; (first | rw [H1.out] | rw [H2.out]); rintro e v ⟨rfl, hb⟩; have HB := Lib.hid (below_up HB.out hb (by have := HB.out.size; omega)); have HQ := Lib.hid (HQ.out.below hb); have HR := Lib.hid (HR.out.below hb); have q0 := HQ.out.c0; have q1 := HQ.out.c1; have r0 := HR.out.c0; have r1 := HR.out.c1; have s0 := HR.out.f0; have s1 := HR.out.f1; clear hb)
      refine bodyPost_ret (v := .tuple #[.agg #[.int .i64 0, .int .i64 0], .bool false]) (by simp [results, Try.results21, go_sem, r0, r1]) rfl ⟨by rw [HE.out.1, HE.out.2.1, HE.out.2.2], ?_⟩
      repeat (first | exact HB.out | refine Below.setCell ?_ (by simp <;> omega) _)
    · have H2 := Lib.hid h2
      have h3 : meetOk a b c d = isV x y := by rw [he, h1, h2]; rfl
      obtain ⟨p, hp⟩ : ∃ p, p = ivLo x y := ⟨_, rfl⟩
      obtain ⟨q, hq⟩ : ∃ q, q = ivHi x y := ⟨_, rfl⟩
      obtain ⟨k, hk⟩ : ∃ k, k = isV x y := ⟨_, rfl⟩
      have HE : Hid (lo = p ∧ hi = q ∧ t = k) := Lib.hid ⟨by rw [hlo, hp]; unfold meetLo ivLo; rw [h3, hx], by rw [hhi, hq]; unfold meetHi ivHi; rw [h3, hy], by rw [ht, hk, h3]⟩
      have HPP := Lib.hid hp
      have HQQ := Lib.hid hq
      have HKK := Lib.hid hk
      clear h1 h2 h3 hx hy he hlo hhi ht hp hq hk
      go_enter Try.func21, Try.ntmps21
      go_wp2_with fail
      rw [← hV]
      clear hV
      have HB := HBV
      go_wp2_with (go_at_call 17; refine (ivQ_any _ _ _).mono ?_; (first | rw [H1.out] | rw [H2.out]); rintro e v ⟨rfl, hb⟩; have HB := Lib.hid (below_up HB.out hb (by have := HB.out.size; omega)); have HP := Lib.hid (HP.out.below hb); have HQ := Lib.hid (HQ.out.below hb); have HR := Lib.hid (HR.out.below hb); have p0 := HP.out.c0; have p1 := HP.out.c1; have q0 := HQ.out.c0; have q1 := HQ.out.c1; have r0 := HR.out.c0; have r1 := HR.out.c1; have s0 := HR.out.f0; have s1 := HR.out.f1; clear hb)
      have P0 := Lib.hid p0
      have P1 := Lib.hid p1
      have Q0 := Lib.hid q0
      have Q1 := Lib.hid q1
      have hlp := HP.out.lt
      have hlq := HQ.out.lt
      have ne1 : ¬ W.heap.size = W.heap.size + 1 + 1 := by omega
      have ne2 : ¬ W.heap.size + 1 + 1 = W.heap.size := by omega
      clear r0 r1 s0 s1
      go_region_held3 (fun w' => (w'.cell? ⟨W.heap.size, 0, none⟩ = some (.int .i64 a) ∧ w'.cell? ⟨W.heap.size, 1, none⟩ = some (.int .i64 b)) ∧ (w'.cell? ⟨W.heap.size + 1, 0, none⟩ = some (.int .i64 c) ∧ w'.cell? ⟨W.heap.size + 1, 1, none⟩ = some (.int .i64 d))) (go_keep) (first
        | (go_at_call 33; refine (max_bel a c _).mono ?_; rw [← HMX.out]; rintro e w4 ⟨rfl, hb4⟩; have G := Lib.hid (below_up (B := v.heap.size) (w0 := v) (by first | exact G.out | exact (Below.refl _ _).drew) hb4 (by first | exact G.out.size | exact Nat.le_refl _)); have p0 := (G.out.cell (p := ⟨W.heap.size, 0, none⟩) hlp).trans P0.out; have p1 := (G.out.cell (p := ⟨W.heap.size, 1, none⟩) hlp).trans P1.out; have q0 := (G.out.cell (p := ⟨W.heap.size + 1, 0, none⟩) hlq).trans Q0.out; have q1 := (G.out.cell (p := ⟨W.heap.size + 1, 1, none⟩) hlq).trans Q1.out; clear hb4)
        | (go_at_call 41; refine (min_bel b d _).mono ?_; rw [← HMY.out]; rintro e w4 ⟨rfl, hb4⟩; have G := Lib.hid (below_up (B := v.heap.size) (w0 := v) (by first | exact G.out | exact (Below.refl _ _).drew) hb4 (by first | exact G.out.size | exact Nat.le_refl _)); have p0 := (G.out.cell (p := ⟨W.heap.size, 0, none⟩) hlp).trans P0.out; have p1 := (G.out.cell (p := ⟨W.heap.size, 1, none⟩) hlp).trans P1.out; have q0 := (G.out.cell (p := ⟨W.heap.size + 1, 0, none⟩) hlq).trans Q0.out; have q1 := (G.out.cell (p := ⟨W.heap.size + 1, 1, none⟩) hlq).trans Q1.out; clear hb4)
        | (go_at_call 31; refine (fromQ_any x y _).mono ?_; rw [← HPP.out, ← HQQ.out, ← HKK.out]; rintro e w5 ⟨rfl, hb5⟩; have G := Lib.hid (below_up (B := v.heap.size) (w0 := v) G.out hb5 (Nat.le_refl _)); have R5 := Lib.hid (HR.out.below G.out); have r0 := R5.out.c0; have r1 := R5.out.c1; have s0 := R5.out.f0; have s1 := R5.out.f1; have p0 := (G.out.cell (p := ⟨W.heap.size, 0, none⟩) hlp).trans P0.out; have p1 := (G.out.cell (p := ⟨W.heap.size, 1, none⟩) hlp).trans P1.out; have q0 := (G.out.cell (p := ⟨W.heap.size + 1, 0, none⟩) hlq).trans Q0.out; have q1 := (G.out.cell (p := ⟨W.heap.size + 1, 1, none⟩) hlq).trans Q1.out; clear hb5))
      all_goals go_wp2_with fail
      all_goals refine bodyPost_ret (v := .tuple #[.agg #[.int .i64 p, .int .i64 q], .bool k]) (by simp [results, Try.results21, go_sem, r0, r1]) rfl ⟨by rw [HE.out.1, HE.out.2.1, HE.out.2.2], ?_⟩
      all_goals repeat (first | exact HB.out.trans (G.out.mono HB.out.size) | refine Below.setCell ?_ (by simp <;> omega) _)
set_option maxRecDepth 20000 in
set_option maxHeartbeats 3200000 in
theorem oneQ_any (s r x y : Int) (W : World) : Calls Try.prog 14 #[.int .i64 s, .int .i64 r, .agg #[.int .i64 x, .int .i64 y]] W (IvRes (oneLo s r x y) (oneHi s r x y) (oneOk s r x y) W) := by
  obtain ⟨V, hV⟩ : ∃ V, V = (W.alloc (.cells #[.int .i64 x, .int .i64 y] 26)).alloc (.cells #[.int .i64 0, .int .i64 0] 26) := ⟨_, rfl⟩
  have HB : Hid (Below W.heap.size W V) := Lib.hid (by rw [hV]; exact ((Below.refl _ _).alloc (Nat.le_refl _) _).alloc (by simp) _)
  have HP := Lib.hid (show PairAt V W.heap.size x y by rw [hV]; exact (pair_new W x y _).alloc _)
  have HR := Lib.hid (show PairAt V (W.heap.size + 1) 0 0 by rw [hV]; have h := pair_new (W.alloc (.cells #[.int .i64 x, .int .i64 y] 26)) 0 0 26; rw [World.size_alloc] at h; exact h)
  have hz : V.heap.size = W.heap.size + 2 := by rw [hV]; simp
  obtain ⟨lo, hlo⟩ : ∃ q, q = oneLo s r x y := ⟨_, rfl⟩
  obtain ⟨hi, hhi⟩ : ∃ q, q = oneHi s r x y := ⟨_, rfl⟩
  obtain ⟨t, ht⟩ : ∃ q, q = oneOk s r x y := ⟨_, rfl⟩
  have HNO : Hid (oneOk s r x y = false → lo = 0 ∧ hi = 0 ∧ t = false) := Lib.hid (fun q => ⟨hlo.trans (one_no q).1, hhi.trans (one_no q).2, ht.trans q⟩)
  have HOK : Hid (oneOk s r x y = (inR s 0 100000 && (inR r 0 100000 && (isV x y && isV (maxV 0 (r - s - y)) (r - s - x))))) := Lib.hid rfl
  rw [← hlo, ← hhi, ← ht]
  have p0 := HP.out.c0
  have p1 := HP.out.c1
  have r0 := HR.out.c0
  have r1 := HR.out.c1
  have s0 := HR.out.f0
  have s1 := HR.out.f1
  cases h1 : inR s 0 100000
  · have H1 := Lib.hid h1
    have HE := Lib.hid (HNO.out (by rw [HOK.out, h1]; rfl))
    clear h1 hlo hhi ht
    go_enter Try.func14, Try.ntmps14
    go_wp2_with fail
    rw [← hV]
    clear hV
    go_wp2_with (go_at_call 32; refine (isStP_any _ _).mono ?_; (first | rw [H1.out]); rintro e v ⟨rfl, rfl⟩)
    refine bodyPost_ret (v := .tuple #[.agg #[.int .i64 0, .int .i64 0], .bool false]) (by simp [results, Try.results14, go_sem, r0, r1]) rfl ⟨by rw [HE.out.1, HE.out.2.1, HE.out.2.2], ?_⟩
    repeat (first | exact HB.out | refine Below.setCell ?_ (by simp <;> omega) _)
  · have H1 := Lib.hid h1
    cases h2 : inR r 0 100000
    · have H2 := Lib.hid h2
      have HE := Lib.hid (HNO.out (by rw [HOK.out, h1, h2]; rfl))
      clear h1 h2 hlo hhi ht
      go_enter Try.func14, Try.ntmps14
      go_wp2_with fail
      rw [← hV]
      clear hV
      go_wp2_with (go_at_call 32; refine (isStP_any _ _).mono ?_; (first | rw [H1.out] | rw [H2.out]); rintro e v ⟨rfl, rfl⟩)
      refine bodyPost_ret (v := .tuple #[.agg #[.int .i64 0, .int .i64 0], .bool false]) (by simp [results, Try.results14, go_sem, r0, r1]) rfl ⟨by rw [HE.out.1, HE.out.2.1, HE.out.2.2], ?_⟩
      repeat (first | exact HB.out | refine Below.setCell ?_ (by simp <;> omega) _)
    · have H2 := Lib.hid h2
      cases h3 : isV x y
      · have H3 := Lib.hid h3
        have HE := Lib.hid (HNO.out (by rw [HOK.out, h1, h2, h3]; rfl))
        clear h1 h2 h3 hlo hhi ht
        go_enter Try.func14, Try.ntmps14
        go_wp2_with fail
        rw [← hV]
        clear hV
        go_wp2_with (first | (go_at_call 32; refine (isStP_any _ _).mono ?_; (first | rw [H1.out] | rw [H2.out]); rintro e v ⟨rfl, rfl⟩) | (go_at_call 17; refine (ivQ_any _ _ _).mono ?_; rw [H3.out]; rintro e w4 ⟨rfl, hb⟩; have HB := Lib.hid (below_up HB.out hb (Nat.le_refl _)); have HR := Lib.hid (HR.out.below hb); have r0 := HR.out.c0; have r1 := HR.out.c1; have s0 := HR.out.f0; have s1 := HR.out.f1; clear hb))
        refine bodyPost_ret (v := .tuple #[.agg #[.int .i64 0, .int .i64 0], .bool false]) (by simp [results, Try.results14, go_sem, r0, r1]) rfl ⟨by rw [HE.out.1, HE.out.2.1, HE.out.2.2], ?_⟩
        repeat (first | exact HB.out | refine Below.setCell ?_ (by simp <;> omega) _)
      · have H3 := Lib.hid h3
        have b1 := inR_true.1 h1
        have b2 := inR_true.1 h2
        obtain ⟨b3, b4, b5⟩ := isV_true.1 h3
        obtain ⟨d, hd⟩ : ∃ d, d = r - s := ⟨_, rfl⟩
        obtain ⟨u, hu⟩ : ∃ u, u = d - y := ⟨_, rfl⟩
        obtain ⟨v9, hv⟩ : ∃ v, v = d - x := ⟨_, rfl⟩
        have w1 : IntKind.i64.wrap (r - s) = d := (IntWalk.i64_in _ (by omega)).trans hd.symm
        have w2 : IntKind.i64.wrap (d - y) = u := (IntWalk.i64_in _ (by omega)).trans hu.symm
        have w3 : IntKind.i64.wrap (d - x) = v9 := (IntWalk.i64_in _ (by omega)).trans hv.symm
        obtain ⟨m, hm⟩ : ∃ m, m = maxV u 0 := ⟨_, rfl⟩
        have hm2 : maxV 0 u = m := by rw [hm]; unfold maxV; split <;> split <;> omega
        have HM := Lib.hid hm
        have h5 : oneOk s r x y = isV m v9 := by rw [HOK.out, h1, h2, h3, ← hm2, hu, hv, hd]; rfl
        obtain ⟨p, hp⟩ : ∃ p, p = ivLo m v9 := ⟨_, rfl⟩
        obtain ⟨q, hq⟩ : ∃ q, q = ivHi m v9 := ⟨_, rfl⟩
        obtain ⟨k, hk⟩ : ∃ k, k = isV m v9 := ⟨_, rfl⟩
        have HE : Hid (lo = p ∧ hi = q ∧ t = k) := Lib.hid ⟨by rw [hlo, hp]; unfold oneLo ivLo; rw [h5, ← hd, ← hu, hm2], by rw [hhi, hq]; unfold oneHi ivHi; rw [h5, ← hd, hv], by rw [ht, hk, h5]⟩
        have HPP := Lib.hid hp
        have HQQ := Lib.hid hq
        have HKK := Lib.hid hk
        clear h1 h2 h3 h5 b1 b2 b3 b4 b5 hd hu hv hm hm2 hp hq hk hlo hhi ht
        go_enter Try.func14, Try.ntmps14
        go_wp2_with fail
        rw [← hV]
        clear hV
        go_wp2_with (first | (go_at_call 32; refine (isStP_any _ _).mono ?_; (first | rw [H1.out] | rw [H2.out]); rintro e v ⟨rfl, rfl⟩) | (go_at_call 17; refine (ivQ_any _ _ _).mono ?_; rw [H3.out]; rintro e w4 ⟨rfl, hb⟩; have HB := Lib.hid (below_up HB.out hb (Nat.le_refl _)); have HP := Lib.hid (HP.out.below hb); have HR := Lib.hid (HR.out.below hb); have p0 := HP.out.c0; have p1 := HP.out.c1; clear hb))
        have P0 := Lib.hid p0
        have P1 := Lib.hid p1
        have hlp := HP.out.lt
        clear r0 r1 s0 s1
        go_region_held3 (fun w' => w'.cell? ⟨W.heap.size, 0, none⟩ = some (.int .i64 x) ∧ w'.cell? ⟨W.heap.size, 1, none⟩ = some (.int .i64 y)) (go_keep) (first
          | (go_at_call 33; refine (max_bel u 0 _).mono ?_; rw [← HM.out]; rintro e w5 ⟨rfl, hb4⟩; have G := Lib.hid (below_up (B := w4.heap.size) (w0 := w4) (by first | exact G.out | exact (Below.refl _ _).drew) hb4 (Nat.le_refl _)); have p0 := (G.out.cell (p := ⟨W.heap.size, 0, none⟩) hlp).trans P0.out; have p1 := (G.out.cell (p := ⟨W.heap.size, 1, none⟩) hlp).trans P1.out; clear hb4)
          | (go_at_call 31; refine (fromQ_any m v9 _).mono ?_; rw [← HPP.out, ← HQQ.out, ← HKK.out]; rintro e w6 ⟨rfl, hb5⟩; have G := Lib.hid (below_up (B := w4.heap.size) (w0 := w4) G.out hb5 (Nat.le_refl _)); have R5 := Lib.hid (HR.out.below G.out); have r0 := R5.out.c0; have r1 := R5.out.c1; have s0 := R5.out.f0; have s1 := R5.out.f1; have p0 := (G.out.cell (p := ⟨W.heap.size, 0, none⟩) hlp).trans P0.out; have p1 := (G.out.cell (p := ⟨W.heap.size, 1, none⟩) hlp).trans P1.out; clear hb5))
        all_goals go_wp2_with fail
        all_goals refine bodyPost_ret (v := .tuple #[.agg #[.int .i64 p, .int .i64 q], .bool k]) (by simp [results, Try.results14, go_sem, r0, r1]) rfl ⟨by rw [HE.out.1, HE.out.2.1, HE.out.2.2], ?_⟩
        all_goals repeat (first | exact HB.out.trans (G.out.mono HB.out.size) | refine Below.setCell ?_ (by simp <;> omega) _)
def fLo (xs : List (Int × Int)) : Int := ((allK xs xs.length).getD (0, 0)).1
def fHi (xs : List (Int × Int)) : Int := ((allK xs xs.length).getD (0, 0)).2
def fOk (xs : List (Int × Int)) : Bool := (allK xs xs.length).isSome
theorem f_stop {xs : List (Int × Int)} {k : Nat} (h : allK xs k = none) : fLo xs = 0 ∧ fHi xs = 0 ∧ fOk xs = false := by
  unfold fLo fHi fOk
  rw [allK_none h]
  exact ⟨rfl, rfl, rfl⟩
theorem f_end {xs : List (Int × Int)} {p q : Int} (h : allK xs xs.length = some (p, q)) : fLo xs = p ∧ fHi xs = q ∧ fOk xs = true := by
  unfold fLo fHi fOk
  rw [h]
  exact ⟨rfl, rfl, rfl⟩
set_option maxRecDepth 20000 in
set_option maxHeartbeats 3200000 in
theorem foldQ_any (W : World) (a : Option Addr) (len cap : Nat) (xs : List (Int × Int)) (hl : len ≤ 1073741824) (hs : SeesV W a len xs) :
    Calls Try.prog 37 #[.slice a len cap, .agg #[.int .i64 (-100000), .int .i64 100000], .func (.func 21) #[] #[]] W (IvRes (fLo xs) (fHi xs) (fOk xs) W) := by
  obtain ⟨V, hV⟩ : ∃ V, V = (W.alloc (.cells #[.int .i64 (-100000), .int .i64 100000] 26)).alloc (.cells #[.int .i64 0, .int .i64 0] 26) := ⟨_, rfl⟩
  have HBV : Hid (Below W.heap.size W V) := Lib.hid (by rw [hV]; exact ((Below.refl _ _).alloc (Nat.le_refl _) _).alloc (by simp) _)
  have HX := Lib.hid (show PairAt V W.heap.size (-100000) 100000 by rw [hV]; exact (pair_new W _ _ _).alloc _)
  have HR := Lib.hid (show PairAt V (W.heap.size + 1) 0 0 by rw [hV]; have h := pair_new (W.alloc (.cells #[.int .i64 (-100000), .int .i64 100000] 26)) 0 0 26; rw [World.size_alloc] at h; exact h)
  have HS := Lib.hid hs
  have HL := Lib.hid hs.1
  obtain ⟨lo, hlo⟩ : ∃ q, q = fLo xs := ⟨_, rfl⟩
  obtain ⟨hi, hhi⟩ : ∃ q, q = fHi xs := ⟨_, rfl⟩
  obtain ⟨t, ht⟩ : ∃ q, q = fOk xs := ⟨_, rfl⟩
  have HRES : Hid (∀ u v z, fLo xs = u ∧ fHi xs = v ∧ fOk xs = z → lo = u ∧ hi = v ∧ t = z) := Lib.hid (fun u v z h => ⟨hlo.trans h.1, hhi.trans h.2.1, ht.trans h.2.2⟩)
  rw [← hlo, ← hhi, ← ht]
  clear hs hlo hhi ht
  go_enter Try.func37, Try.ntmps37
  go_wp2_with fail
  rw [← hV]
  clear hV
  go_loopw [13, 8, 10, 17] (fun i _ _ _ wr => ∃ (k : Nat) (p q : Int), k ≤ len ∧ i = .int .i64 k ∧ Hid (allK xs k = some (p, q)) ∧ PairAt wr W.heap.size p q ∧ PairAt wr (W.heap.size + 1) 0 0 ∧ Below W.heap.size W wr) (fun i _ _ _ _ => len - (intOf i).toNat)
  case atStart => exact ⟨0, _, _, Nat.zero_le _, rfl, Lib.hid rfl, HX.out, HR.out, HBV.out⟩
  case round =>
    clear HX HR
    obtain ⟨k, p, q, hk, rfl, HK, hx, hr, hb⟩ := hrel
    have HX := Lib.hid hx
    have HR := Lib.hid hr
    have HB := Lib.hid hb
    by_cases hlt : k < len
    · obtain ⟨b, off, rfl, hb0, hc0, hc1⟩ := (HS.out.below hb).spot hlt
      obtain ⟨c, d, hcd⟩ : ∃ c d, xs.getD k (0, 0) = (c, d) := ⟨_, _, rfl⟩
      rw [hcd] at hc0 hc1
      have HN : Hid (allK xs (k + 1) = stepV (some (p, q)) (c, d)) := Lib.hid (by rw [allK_next (by rw [HL.out]; exact hlt), HK.out, hcd])
      have i0k : (0 : Int) ≤ (k : Int) := by omega
      have i1k : (k : Int) < (len : Int) := by omega
      obtain ⟨N, hN⟩ : ∃ n, n = meetLo p q c d := ⟨_, rfl⟩
      obtain ⟨D, hD⟩ : ∃ n, n = meetHi p q c d := ⟨_, rfl⟩
      obtain ⟨K, hK⟩ : ∃ n, n = meetOk p q c d := ⟨_, rfl⟩
      have HNN := Lib.hid hN
      have HDD := Lib.hid hD
      have HKK := Lib.hid hK
      obtain ⟨U, hU⟩ : ∃ U, U = wr.alloc (.cells #[.int .i64 c, .int .i64 d] 26) := ⟨_, rfl⟩
      have HXU := Lib.hid (show PairAt U W.heap.size p q by rw [hU]; exact hx.alloc _)
      have HRU := Lib.hid (show PairAt U (W.heap.size + 1) 0 0 by rw [hU]; exact hr.alloc _)
      have HEU := Lib.hid (show PairAt U wr.heap.size c d by rw [hU]; exact pair_new _ _ _ _)
      have HBU := Lib.hid (show Below W.heap.size W U by rw [hU]; exact hb.alloc hb.size _)
      have x0 := HXU.out.c0
      have x1 := HXU.out.c1
      have e0 := HEU.out.c0
      have e1 := HEU.out.c1
      clear hcd hN hD hK hx hr hb
      have y0 := x0
      have y1 := x1
      have y2 := e0
      have y3 := e1
      rw [hU] at y0 y1 y2 y3
      go_wp2_with fail
      rw [← hU]
      clear hU y0 y1 y2 y3
      go_at_call 21
      refine (meetQ_any p q c d _).mono ?_
      rw [← HNN.out, ← HDD.out, ← HKK.out]
      rintro e w4 ⟨rfl, hb4⟩
      have HX4 := Lib.hid (HXU.out.below hb4)
      have HR4 := Lib.hid (HRU.out.below hb4)
      have HB4 := Lib.hid (below_up HBU.out hb4 (Nat.le_refl _))
      have x0 := HX4.out.c0
      have x1 := HX4.out.c1
      have xf0 := HX4.out.f0
      have xf1 := HX4.out.f1
      clear hb4 hc0 hc1 e0 e1
      cases K
      · have HE := Lib.hid (HRES.out _ _ _ (f_stop (k := k + 1) (by rw [HN.out]; exact stepV_no HKK.out.symm)))
        obtain ⟨h1, h2⟩ := meet_no HKK.out.symm
        have HN0 : Hid (N = 0 ∧ D = 0) := Lib.hid ⟨HNN.out.trans h1, HDD.out.trans h2⟩
        have r0 := HR4.out.c0
        have r1 := HR4.out.c1
        have s0 := HR4.out.f0
        have s1 := HR4.out.f1
        clear h1 h2
        go_wp2
        refine bodyPost_ret (v := .tuple #[.agg #[.int .i64 N, .int .i64 D], .bool false]) (by simp [results, Try.results37, go_sem, r0, r1]) rfl ⟨by rw [HE.out.1, HE.out.2.1, HE.out.2.2, HN0.out.1, HN0.out.2], ?_⟩
        repeat (first | exact HB4.out | refine Below.setCell ?_ (by simp <;> omega) _)
      · have HE : Hid (allK xs (k + 1) = some (N, D)) := Lib.hid (by rw [HN.out, stepV_yes HKK.out.symm, HNN.out, HDD.out])
        go_wp2
        go_roundw
        case rel => exact ⟨k + 1, N, D, hlt, by go_num, HE, pair_putV HX4.out _ _, (HR4.out.setOther (by omega) _).setOther (by omega) _, by repeat (first | exact HB4.out | refine Below.setCell ?_ (by simp <;> omega) _)⟩
        case measure => simp [intOf]; omega
    · obtain rfl : k = len := by omega
      have x0 := hx.c0
      have x1 := hx.c1
      have r0 := hr.c0
      have r1 := hr.c1
      have s0 := hr.f0
      have s1 := hr.f1
      have HE := Lib.hid (HRES.out _ _ _ (f_end (p := p) (q := q) (by rw [HL.out]; exact HK.out)))
      clear hx hr hb
      go_wp2_with fail
      refine bodyPost_ret (v := .tuple #[.agg #[.int .i64 p, .int .i64 q], .bool true]) (by simp [results, Try.results37, go_sem, r0, r1]) rfl ⟨by rw [HE.out.1, HE.out.2.1, HE.out.2.2], ?_⟩
      repeat (first | exact HB.out | refine Below.setCell ?_ (by simp <;> omega) _)
set_option maxHeartbeats 1600000 in
theorem allP_any (W : World) (a : Option Addr) (len cap : Nat) (xs : List (Int × Int)) (hl : len ≤ 1073741824) (hs : SeesV W a len xs) :
    Calls Try.prog 16 #[.slice a len cap] W (IvRes (allLo xs) (allHi xs) (allOk xs) W) := by
  obtain ⟨V, hV⟩ : ∃ V, V = W.alloc (.cells #[.int .i64 0, .int .i64 0] 26) := ⟨_, rfl⟩
  have HBV : Hid (Below W.heap.size W V) := Lib.hid (by rw [hV]; exact (Below.refl _ _).alloc (Nat.le_refl _) _)
  have HR := Lib.hid (show PairAt V W.heap.size 0 0 by rw [hV]; exact pair_new W 0 0 _)
  have HS := Lib.hid (hs.below HBV.out)
  obtain ⟨lo, hlo⟩ : ∃ q, q = allLo xs := ⟨_, rfl⟩
  obtain ⟨hi, hhi⟩ : ∃ q, q = allHi xs := ⟨_, rfl⟩
  obtain ⟨t, ht⟩ : ∃ q, q = allOk xs := ⟨_, rfl⟩
  rw [← hlo, ← hhi, ← ht]
  by_cases h0 : len = 0
  · have HE : Hid (lo = 0 ∧ hi = 0 ∧ t = false) := Lib.hid (by
      have h := all_empty (xs := xs) (by rw [hs.1]; exact h0)
      exact ⟨hlo.trans h.1, hhi.trans h.2.1, ht.trans h.2.2⟩)
    have r0 := HR.out.c0
    have r1 := HR.out.c1
    have s0 := HR.out.f0
    have s1 := HR.out.f1
    clear hs hlo hhi ht
    subst h0
    go_enter Try.func16, Try.ntmps16
    go_wp2_with fail
    rw [← hV]
    clear hV
    go_wp2_with fail
    refine bodyPost_ret (v := .tuple #[.agg #[.int .i64 0, .int .i64 0], .bool false]) (by simp [results, Try.results16, go_sem, r0, r1]) rfl ⟨by rw [HE.out.1, HE.out.2.1, HE.out.2.2], ?_⟩
    repeat (first | exact HBV.out | refine Below.setCell ?_ (by simp <;> omega) _)
  · have hf : fLo xs = lo ∧ fHi xs = hi ∧ fOk xs = t := by
      rw [hlo, hhi, ht]
      have h1 : allOk xs = fOk xs := by
        unfold allOk fOk
        rw [decide_eq_false (by rw [hs.1]; exact h0)]
        rfl
      unfold allLo allHi
      rw [h1]
      cases h2 : allK xs xs.length
      · simp [fLo, fHi, fOk, h2]
      · simp [fLo, fHi, fOk, h2]
    have HF := Lib.hid hf
    have h1 : ¬ (len : Int) = 0 := by omega
    clear hs hlo hhi ht hf
    go_enter Try.func16, Try.ntmps16
    go_wp2_with fail
    rw [← hV]
    clear hV
    go_wp2_with fail
    go_at_call 37
    refine (foldQ_any _ a len cap xs hl HS.out).mono ?_
    rw [HF.out.1, HF.out.2.1, HF.out.2.2]
    rintro e w4 ⟨rfl, hb4⟩
    have HR4 := Lib.hid (HR.out.below hb4)
    have HB4 := Lib.hid (below_up HBV.out hb4 (Nat.le_refl _))
    have r0 := HR4.out.c0
    have r1 := HR4.out.c1
    have s0 := HR4.out.f0
    have s1 := HR4.out.f1
    clear hb4
    go_wp2
    refine bodyPost_ret (v := .tuple #[.agg #[.int .i64 lo, .int .i64 hi], .bool t]) (by simp [results, Try.results16, go_sem, r0, r1]) rfl ⟨rfl, ?_⟩
    repeat (first | exact HB4.out | refine Below.setCell ?_ (by simp <;> omega) _)
theorem ivP_any (x y : Int) (w : World) (_ : IsI64 x) (_ : IsI64 y) : Calls Try.prog 17 #[.agg #[.int .i64 x, .int .i64 y]] w fun e w' => e = .returned (.bool (isV x y)) ∧ Below w.heap.size w w' := ivQ_any x y w
theorem widP_any (x y : Int) (w : World) (_ : IsI64 x) (_ : IsI64 y) : Calls Try.prog 13 #[.agg #[.int .i64 x, .int .i64 y]] w fun e w' => e = .returned (.int .i64 (widV x y)) ∧ Below w.heap.size w w' := widQ_any x y w
theorem offP_any (s r b h : Int) (W : World) (_ : IsI64 s) (_ : IsI64 r) (_ : IsI64 b) (_ : IsI64 h) : Calls Try.prog 12 #[.int .i64 s, .int .i64 r, .int .i64 b, .int .i64 h] W (IvRes (offLo s r b h) (offHi s r b h) (offOk s r b h) W) := offQ_any s r b h W
theorem oneP_any (s r x y : Int) (W : World) (_ : IsI64 s) (_ : IsI64 r) (_ : IsI64 x) (_ : IsI64 y) : Calls Try.prog 14 #[.int .i64 s, .int .i64 r, .agg #[.int .i64 x, .int .i64 y]] W (IvRes (oneLo s r x y) (oneHi s r x y) (oneOk s r x y) W) := oneQ_any s r x y W
theorem meetP_any (a b c d : Int) (W : World) (_ : IsI64 a) (_ : IsI64 b) (_ : IsI64 c) (_ : IsI64 d) : Calls Try.prog 21 #[.agg #[.int .i64 a, .int .i64 b], .agg #[.int .i64 c, .int .i64 d]] W (IvRes (meetLo a b c d) (meetHi a b c d) (meetOk a b c d) W) := meetQ_any a b c d W
end Go.Proofs.Ytiehnhocmoodaaa
