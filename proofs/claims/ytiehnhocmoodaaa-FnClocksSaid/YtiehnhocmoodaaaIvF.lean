/- Intervals: plain words, and the model's. -/
import Derived.Test.YtiehnhocmoodaaaIntW
import Derived.Test.YtiehnhocmoodaaaPair
import Derived.Deep.RegionHeld3
import Derived.Deep.DeepCutAuto
import Derived.Tactics2
namespace Go.Proofs.Ytiehnhocmoodaaa
open Go.RowKit
def isV (lo hi : Int) : Bool := inR lo (-100000) 100000 && (inR hi (-100000) 100000 && decide (lo ≤ hi))
theorem isV_true {lo hi : Int} : isV lo hi = true ↔ -100000 ≤ lo ∧ hi ≤ 100000 ∧ lo ≤ hi := by
  unfold isV
  simp only [Bool.and_eq_true, inR_true, decide_eq_true_eq]
  omega
/-- What a call leaves that gives an interval and says whether there is one. -/
def IvRes (x y : Int) (t : Bool) (w : World) (e : Ending) (w' : World) : Prop := e = .returned (.tuple #[.agg #[.int .i64 x, .int .i64 y], .bool t]) ∧ Below w.heap.size w w'
def IvV (x y : Int) (w : World) (e : Ending) (w' : World) : Prop := e = .returned (.agg #[.int .i64 x, .int .i64 y]) ∧ Below w.heap.size w w'
theorem toIv_any (x y : Int) (w : World) : Calls Try.prog 19 #[.agg #[.int .i64 x, .int .i64 y]] w (IvV x y w) := by
  go_enter Try.func19, Try.ntmps19
  go_wp2
  refine bodyPost_ret (v := .agg #[.int .i64 x, .int .i64 y]) (by simp [results, Try.results19, go_sem]) rfl ⟨rfl, ?_⟩
  repeat (first | exact Below.refl _ _ | refine Below.setCell ?_ (by simp <;> omega) _ | refine Below.alloc ?_ (by simp <;> omega) _)
theorem eqIv_yes (x y : Int) (w : World) : Calls Try.prog 22 #[.agg #[.int .i64 x, .int .i64 y], .agg #[.int .i64 x, .int .i64 y]] w fun e w' => e = .returned (.bool true) ∧ Below w.heap.size w w' := by
  go_enter Try.func22, Try.ntmps22
  go_wp2
  go_ret
  exact ⟨rfl, ((Below.refl _ _).alloc (Nat.le_refl _) _).alloc (by simp) _⟩
theorem specIv_any (x y : Int) (w : World) : Calls Try.prog 18 #[.agg #[.int .i64 x, .int .i64 y]] w fun e w' => e = .returned (.bool (isV x y)) ∧ Below w.heap.size w w' := by
  cases hx : inR x (-100000) 100000
  · have HX := Lib.hid hx
    have HE : Hid (false = isV x y) := Lib.hid (by unfold isV; rw [hx]; rfl)
    clear hx
    go_enter Try.func18, Try.ntmps18
    go_wp2_with (go_at_call 38; refine (l1In_any _ _ _ _).mono ?_; rw [HX.out]; rintro e w' ⟨rfl, rfl⟩)
    go_ret
    exact ⟨ret_bool HE.out, (Below.refl _ _).alloc (Nat.le_refl _) _⟩
  · have HX := Lib.hid hx
    cases hy : inR y (-100000) 100000
    · have HY := Lib.hid hy
      have HE : Hid (false = isV x y) := Lib.hid (by unfold isV; rw [hx, hy]; rfl)
      clear hx hy
      go_enter Try.func18, Try.ntmps18
      go_wp2_with (go_at_call 38; refine (l1In_any _ _ _ _).mono ?_; (first | rw [HX.out] | rw [HY.out]); rintro e w' ⟨rfl, rfl⟩)
      go_ret
      exact ⟨ret_bool HE.out, (Below.refl _ _).alloc (Nat.le_refl _) _⟩
    · have HY := Lib.hid hy
      have HE : Hid (decide (x ≤ y) = isV x y) := Lib.hid (by unfold isV; rw [hx, hy]; rfl)
      clear hx hy
      go_enter Try.func18, Try.ntmps18
      go_wp2_with (go_at_call 38; refine (l1In_any _ _ _ _).mono ?_; (first | rw [HX.out] | rw [HY.out]); rintro e w' ⟨rfl, rfl⟩)
      go_ret
      exact ⟨ret_bool HE.out, (Below.refl _ _).alloc (Nat.le_refl _) _⟩
def meetOk (a b c d : Int) : Bool := isV a b && (isV c d && isV (maxV a c) (minV b d))
def meetLo (a b c d : Int) : Int := if meetOk a b c d = true then maxV a c else 0
def meetHi (a b c d : Int) : Int := if meetOk a b c d = true then minV b d else 0
theorem meet_no {a b c d : Int} (h : meetOk a b c d = false) : meetLo a b c d = 0 ∧ meetHi a b c d = 0 := by simp [meetLo, meetHi, h]
theorem meet_yes {a b c d : Int} (h : meetOk a b c d = true) : meetLo a b c d = maxV a c ∧ meetHi a b c d = minV b d := by simp [meetLo, meetHi, h]
/-- A new interval lies in a block of its own. -/
def CutV (W0 : World) (N D : Int) (s : Value) (wx : World) : Prop := ∃ g : Nat, s = .pointer (some ⟨g, 0, none⟩) ∧ PairAt wx g N D ∧ Below W0.heap.size W0 wx
theorem pair_putV {w : World} {g : Nat} {x y : Int} (h : PairAt w g x y) (n d : Int) : PairAt ((w.setCell ⟨g, 0, none⟩ (.int .i64 n)).setCell ⟨g, 1, none⟩ (.int .i64 d)) g n d := by
  obtain ⟨h0, h1, h2, h3, h4⟩ := h
  exact ⟨by go_simp, by go_simp, by go_simp, by go_simp, by simpa [World.setCell] using h4⟩
theorem below_allocV {B : Nat} {W W' : World} (h : Below B W W') (hB : B ≤ W.heap.size) (o : Obj) : Below B W (W'.alloc o) := h.alloc (Nat.le_trans hB h.size) o
theorem l9Stamp_any (n : Int) (w : World) : Calls Try.prog 42 #[.int .i64 n] w fun e w' => e = .returned (.bool (inR n 0 100000)) ∧ w = w' := by
  go_enter Try.func42, Try.ntmps42
  go_wp2_with (go_at_call 38; refine (l1In_any _ _ _ _).mono ?_; rintro e w' ⟨rfl, rfl⟩)
  go_ret
  exact ⟨rfl, rfl⟩
set_option maxRecDepth 20000 in
set_option maxHeartbeats 3200000 in
theorem specMeet_any (a b c d : Int) (W : World) : Calls Try.prog 20 #[.agg #[.int .i64 a, .int .i64 b], .agg #[.int .i64 c, .int .i64 d]] W (IvRes (meetLo a b c d) (meetHi a b c d) (meetOk a b c d) W) := by
  obtain ⟨x, hx⟩ : ∃ x, x = maxV a c := ⟨_, rfl⟩
  obtain ⟨y, hy⟩ : ∃ y, y = minV b d := ⟨_, rfl⟩
  have HMX := Lib.hid hx
  have HMY := Lib.hid hy
  obtain ⟨V, hV⟩ : ∃ V, V = ((W.alloc (.cells #[.int .i64 a, .int .i64 b] 26)).alloc (.cells #[.int .i64 c, .int .i64 d] 26)).alloc (.cells #[.int .i64 0, .int .i64 0] 26) := ⟨_, rfl⟩
  have HBV : Hid (Below W.heap.size W V) := Lib.hid (by rw [hV]; exact (((Below.refl _ _).alloc (Nat.le_refl _) _).alloc (by simp) _).alloc (by simp <;> omega) _)
  have HP := Lib.hid (show PairAt V W.heap.size a b by rw [hV]; exact ((pair_new W a b _).alloc _).alloc _)
  have HQ := Lib.hid (show PairAt V (W.heap.size + 1) c d by rw [hV]; have h := (pair_new (W.alloc (.cells #[.int .i64 a, .int .i64 b] 26)) c d 26).alloc (.cells #[.int .i64 0, .int .i64 0] 26); rw [World.size_alloc] at h; exact h)
  have HR := Lib.hid (show PairAt V (W.heap.size + 2) 0 0 by rw [hV]; have h := pair_new ((W.alloc (.cells #[.int .i64 a, .int .i64 b] 26)).alloc (.cells #[.int .i64 c, .int .i64 d] 26)) 0 0 26; rw [World.size_alloc, World.size_alloc] at h; exact h)
  have hz : V.heap.size = W.heap.size + 3 := by rw [hV]; simp
  have p0 := HP.out.c0
  have p1 := HP.out.c1
  have q0 := HQ.out.c0
  have q1 := HQ.out.c1
  have n0 := World.new_ne _ _ p0
  have n1 := World.new_ne _ _ q0
  have he : meetOk a b c d = (isV a b && (isV c d && isV x y)) := by rw [hx, hy]; rfl
  obtain ⟨lo, hlo⟩ : ∃ r, r = meetLo a b c d := ⟨_, rfl⟩
  obtain ⟨hi, hhi⟩ : ∃ r, r = meetHi a b c d := ⟨_, rfl⟩
  obtain ⟨t, ht⟩ : ∃ r, r = meetOk a b c d := ⟨_, rfl⟩
  have HNO : Hid (meetOk a b c d = false → lo = 0 ∧ hi = 0 ∧ t = false) := Lib.hid (fun h => ⟨hlo.trans (meet_no h).1, hhi.trans (meet_no h).2, ht.trans h⟩)
  have HYES : Hid (meetOk a b c d = true → lo = x ∧ hi = y ∧ t = true) := Lib.hid (fun h => ⟨(hlo.trans (meet_yes h).1).trans hx.symm, (hhi.trans (meet_yes h).2).trans hy.symm, ht.trans h⟩)
  have HOK := Lib.hid he
  rw [← hlo, ← hhi, ← ht]
  clear hx hy he hlo hhi ht
  go_enter Try.func20, Try.ntmps20
  go_wp2_with fail
  rw [← hV]
  clear hV
  go_cut [6] (CutV V x y)
  case first =>
    go_region_held3 (fun w' => (w'.cell? ⟨W.heap.size, 0, none⟩ = some (.int .i64 a) ∧ w'.cell? ⟨W.heap.size, 1, none⟩ = some (.int .i64 b)) ∧ (w'.cell? ⟨W.heap.size + 1, 0, none⟩ = some (.int .i64 c) ∧ w'.cell? ⟨W.heap.size + 1, 1, none⟩ = some (.int .i64 d))) (go_keep) (first
      | (go_at_call 39; refine (specMax_any a c _).mono ?_; rw [← HMX.out]; rintro e w' ⟨rfl, rfl⟩)
      | (go_at_call 40; refine (specMin_any b d _).mono ?_; rw [← HMY.out]; rintro e w' ⟨rfl, rfl⟩))
    all_goals go_wp2_with fail
    all_goals go_meet
    all_goals exact ⟨_, rfl, (by have h := (pair_new V x y 26).drew; rw [hz] at h; exact h), ((Below.refl V.heap.size V).alloc (Nat.le_refl _) _).drew⟩
  case rest =>
    obtain ⟨g, rfl, hpg, hbg⟩ := hcut
    have HP := Lib.hid (HP.out.below hbg)
    have HQ := Lib.hid (HQ.out.below hbg)
    have HR := Lib.hid (HR.out.below hbg)
    have HX := Lib.hid hpg
    have HB := Lib.hid hbg
    clear p0 p1 q0 q1 n0 n1 hpg hbg
    have p0 := HP.out.c0
    have p1 := HP.out.c1
    have q0 := HQ.out.c0
    have q1 := HQ.out.c1
    have x0 := HX.out.c0
    have x1 := HX.out.c1
    have r0 := HR.out.c0
    have r1 := HR.out.c1
    have s0 := HR.out.f0
    have s1 := HR.out.f1
    cases h1 : isV a b
    · have H1 := Lib.hid h1
      have HE := Lib.hid (HNO.out (by rw [HOK.out, h1]; rfl))
      clear h1
      go_wp2_with (go_at_call 18; refine (specIv_any _ _ _).mono ?_; (first | rw [H1.out]); rintro e v ⟨rfl, hb⟩; have HP := Lib.hid (HP.out.below hb); have HQ := Lib.hid (HQ.out.below hb); have HX := Lib.hid (HX.out.below hb); have HR := Lib.hid (HR.out.below hb); have HB := Lib.hid (below_up HB.out hb (Nat.le_refl _)); have p0 := HP.out.c0; have p1 := HP.out.c1; have q0 := HQ.out.c0; have q1 := HQ.out.c1; have x0 := HX.out.c0; have x1 := HX.out.c1; have r0 := HR.out.c0; have r1 := HR.out.c1; have s0 := HR.out.f0; have s1 := HR.out.f1; clear hb)
      refine bodyPost_ret (v := .tuple #[.agg #[.int .i64 0, .int .i64 0], .bool false]) (by simp [results, Try.results20, go_sem, r0, r1]) rfl ⟨by rw [HE.out.1, HE.out.2.1, HE.out.2.2], ?_⟩
      repeat (first | exact HBV.out.trans (HB.out.mono HBV.out.size) | refine Below.setCell ?_ (by simp <;> omega) _)
    · have H1 := Lib.hid h1
      cases h2 : isV c d
      · have H2 := Lib.hid h2
        have HE := Lib.hid (HNO.out (by rw [HOK.out, h1, h2]; rfl))
        clear h1 h2
        go_wp2_with (go_at_call 18; refine (specIv_any _ _ _).mono ?_; (first | rw [H1.out] | rw [H2.out]); rintro e v ⟨rfl, hb⟩; have HP := Lib.hid (HP.out.below hb); have HQ := Lib.hid (HQ.out.below hb); have HX := Lib.hid (HX.out.below hb); have HR := Lib.hid (HR.out.below hb); have HB := Lib.hid (below_up HB.out hb (Nat.le_refl _)); have p0 := HP.out.c0; have p1 := HP.out.c1; have q0 := HQ.out.c0; have q1 := HQ.out.c1; have x0 := HX.out.c0; have x1 := HX.out.c1; have r0 := HR.out.c0; have r1 := HR.out.c1; have s0 := HR.out.f0; have s1 := HR.out.f1; clear hb)
        refine bodyPost_ret (v := .tuple #[.agg #[.int .i64 0, .int .i64 0], .bool false]) (by simp [results, Try.results20, go_sem, r0, r1]) rfl ⟨by rw [HE.out.1, HE.out.2.1, HE.out.2.2], ?_⟩
        repeat (first | exact HBV.out.trans (HB.out.mono HBV.out.size) | refine Below.setCell ?_ (by simp <;> omega) _)
      · have H2 := Lib.hid h2
        cases h3 : isV x y
        · have H3 := Lib.hid h3
          have HE := Lib.hid (HNO.out (by rw [HOK.out, h1, h2, h3]; rfl))
          clear h1 h2 h3
          go_wp2_with (go_at_call 18; refine (specIv_any _ _ _).mono ?_; (first | rw [H1.out] | rw [H2.out] | rw [H3.out]); rintro e v ⟨rfl, hb⟩; have HP := Lib.hid (HP.out.below hb); have HQ := Lib.hid (HQ.out.below hb); have HX := Lib.hid (HX.out.below hb); have HR := Lib.hid (HR.out.below hb); have HB := Lib.hid (below_up HB.out hb (Nat.le_refl _)); have p0 := HP.out.c0; have p1 := HP.out.c1; have q0 := HQ.out.c0; have q1 := HQ.out.c1; have x0 := HX.out.c0; have x1 := HX.out.c1; have r0 := HR.out.c0; have r1 := HR.out.c1; have s0 := HR.out.f0; have s1 := HR.out.f1; clear hb)
          refine bodyPost_ret (v := .tuple #[.agg #[.int .i64 0, .int .i64 0], .bool false]) (by simp [results, Try.results20, go_sem, r0, r1]) rfl ⟨by rw [HE.out.1, HE.out.2.1, HE.out.2.2], ?_⟩
          repeat (first | exact HBV.out.trans (HB.out.mono HBV.out.size) | refine Below.setCell ?_ (by simp <;> omega) _)
        · have H3 := Lib.hid h3
          have HE := Lib.hid (HYES.out (by rw [HOK.out, h1, h2, h3]; rfl))
          clear h1 h2 h3
          go_wp2_with (go_at_call 18; refine (specIv_any _ _ _).mono ?_; (first | rw [H1.out] | rw [H2.out] | rw [H3.out]); rintro e v ⟨rfl, hb⟩; have HP := Lib.hid (HP.out.below hb); have HQ := Lib.hid (HQ.out.below hb); have HX := Lib.hid (HX.out.below hb); have HR := Lib.hid (HR.out.below hb); have HB := Lib.hid (below_up HB.out hb (Nat.le_refl _)); have p0 := HP.out.c0; have p1 := HP.out.c1; have q0 := HQ.out.c0; have q1 := HQ.out.c1; have x0 := HX.out.c0; have x1 := HX.out.c1; have r0 := HR.out.c0; have r1 := HR.out.c1; have s0 := HR.out.f0; have s1 := HR.out.f1; clear hb)
          refine bodyPost_ret (v := .tuple #[.agg #[.int .i64 x, .int .i64 y], .bool true]) (by simp [results, Try.results20, go_sem, r0, r1]) rfl ⟨by rw [HE.out.1, HE.out.2.1, HE.out.2.2], ?_⟩
          repeat (first | exact HBV.out.trans (HB.out.mono HBV.out.size) | refine Below.setCell ?_ (by simp <;> omega) _)
def widV (x y : Int) : Int := if isV x y = true then y - x else -1
theorem specWid_any (x y : Int) (W : World) : Calls Try.prog 29 #[.agg #[.int .i64 x, .int .i64 y]] W fun e w' => e = .returned (.int .i64 (widV x y)) ∧ Below W.heap.size W w' := by
  obtain ⟨V, hV⟩ : ∃ V, V = W.alloc (.cells #[.int .i64 x, .int .i64 y] 26) := ⟨_, rfl⟩
  have HBV : Hid (Below W.heap.size W V) := Lib.hid (by rw [hV]; exact (Below.refl _ _).alloc (Nat.le_refl _) _)
  have HP := Lib.hid (show PairAt V W.heap.size x y by rw [hV]; exact pair_new W x y _)
  have p0 := HP.out.c0
  have p1 := HP.out.c1
  cases h1 : isV x y
  · have H1 := Lib.hid h1
    have HE : Hid (-1 = widV x y) := Lib.hid (by simp [widV, h1])
    clear h1
    go_enter Try.func29, Try.ntmps29
    go_wp2_with fail
    rw [← hV]
    clear hV
    go_wp2_with (go_at_call 18; refine (specIv_any _ _ _).mono ?_; rw [H1.out]; rintro e v ⟨rfl, hb⟩; have HB := Lib.hid (below_up HBV.out hb (Nat.le_refl _)); clear hb)
    go_ret
    exact ⟨ret_int HE.out, HB.out⟩
  · have H1 := Lib.hid h1
    have HE : Hid (y - x = widV x y) := Lib.hid (by simp [widV, h1])
    obtain ⟨b1, b2, b3⟩ := isV_true.1 h1
    have hw : IntKind.i64.wrap (y - x) = y - x := IntWalk.i64_in _ (by omega)
    clear h1
    go_enter Try.func29, Try.ntmps29
    go_wp2_with fail
    rw [← hV]
    clear hV
    go_wp2_with (go_at_call 18; refine (specIv_any _ _ _).mono ?_; rw [H1.out]; rintro e v ⟨rfl, hb⟩; have HB := Lib.hid (below_up HBV.out hb (Nat.le_refl _)); have p0 := (HP.out.below hb).c0; have p1 := (HP.out.below hb).c1; clear hb)
    go_ret
    exact ⟨ret_int HE.out, HB.out⟩
def offOk (s r b h : Int) : Bool := inR s 0 100000 && (inR r 0 100000 && (inR b 0 100000 && (inR h 0 100000 && decide (b - h ≤ r - s))))
def offLo (s r b h : Int) : Int := if offOk s r b h = true then b - h else 0
def offHi (s r b h : Int) : Int := if offOk s r b h = true then r - s else 0
theorem off_no {s r b h : Int} (q : offOk s r b h = false) : offLo s r b h = 0 ∧ offHi s r b h = 0 := by simp [offLo, offHi, q]
theorem off_yes {s r b h : Int} (q : offOk s r b h = true) : offLo s r b h = b - h ∧ offHi s r b h = r - s := by simp [offLo, offHi, q]
set_option maxRecDepth 20000 in
set_option maxHeartbeats 3200000 in
theorem specOff_any (s r b h : Int) (W : World) : Calls Try.prog 27 #[.int .i64 s, .int .i64 r, .int .i64 b, .int .i64 h] W (IvRes (offLo s r b h) (offHi s r b h) (offOk s r b h) W) := by
  obtain ⟨V, hV⟩ : ∃ V, V = W.alloc (.cells #[.int .i64 0, .int .i64 0] 26) := ⟨_, rfl⟩
  have HBV : Hid (Below W.heap.size W V) := Lib.hid (by rw [hV]; exact (Below.refl _ _).alloc (Nat.le_refl _) _)
  have HR := Lib.hid (show PairAt V W.heap.size 0 0 by rw [hV]; exact pair_new W 0 0 _)
  obtain ⟨lo, hlo⟩ : ∃ q, q = offLo s r b h := ⟨_, rfl⟩
  obtain ⟨hi, hhi⟩ : ∃ q, q = offHi s r b h := ⟨_, rfl⟩
  obtain ⟨t, ht⟩ : ∃ q, q = offOk s r b h := ⟨_, rfl⟩
  have HNO : Hid (offOk s r b h = false → lo = 0 ∧ hi = 0 ∧ t = false) := Lib.hid (fun q => ⟨hlo.trans (off_no q).1, hhi.trans (off_no q).2, ht.trans q⟩)
  have HYES : Hid (offOk s r b h = true → lo = b - h ∧ hi = r - s ∧ t = true) := Lib.hid (fun q => ⟨hlo.trans (off_yes q).1, hhi.trans (off_yes q).2, ht.trans q⟩)
  have HOK : Hid (offOk s r b h = (inR s 0 100000 && (inR r 0 100000 && (inR b 0 100000 && (inR h 0 100000 && decide (b - h ≤ r - s)))))) := Lib.hid rfl
  rw [← hlo, ← hhi, ← ht]
  have r0 := HR.out.c0
  have r1 := HR.out.c1
  have s0 := HR.out.f0
  have s1 := HR.out.f1
  clear hlo hhi ht
  cases h1 : inR s 0 100000
  · have H1 := Lib.hid h1
    have HE := Lib.hid (HNO.out (by rw [HOK.out, h1]; rfl))
    clear h1
    go_enter Try.func27, Try.ntmps27
    go_wp2_with fail
    rw [← hV]
    clear hV
    go_wp2_with (go_at_call 42; refine (l9Stamp_any _ _).mono ?_; (first | rw [H1.out]); rintro e v ⟨rfl, rfl⟩)
    refine bodyPost_ret (v := .tuple #[.agg #[.int .i64 0, .int .i64 0], .bool false]) (by simp [results, Try.results27, go_sem, r0, r1]) rfl ⟨by rw [HE.out.1, HE.out.2.1, HE.out.2.2], ?_⟩
    repeat (first | exact HBV.out | refine Below.setCell ?_ (by simp <;> omega) _)
  · have H1 := Lib.hid h1
    cases h2 : inR r 0 100000
    · have H2 := Lib.hid h2
      have HE := Lib.hid (HNO.out (by rw [HOK.out, h1, h2]; rfl))
      clear h1 h2
      go_enter Try.func27, Try.ntmps27
      go_wp2_with fail
      rw [← hV]
      clear hV
      go_wp2_with (go_at_call 42; refine (l9Stamp_any _ _).mono ?_; (first | rw [H1.out] | rw [H2.out]); rintro e v ⟨rfl, rfl⟩)
      refine bodyPost_ret (v := .tuple #[.agg #[.int .i64 0, .int .i64 0], .bool false]) (by simp [results, Try.results27, go_sem, r0, r1]) rfl ⟨by rw [HE.out.1, HE.out.2.1, HE.out.2.2], ?_⟩
      repeat (first | exact HBV.out | refine Below.setCell ?_ (by simp <;> omega) _)
    · have H2 := Lib.hid h2
      cases h3 : inR b 0 100000
      · have H3 := Lib.hid h3
        have HE := Lib.hid (HNO.out (by rw [HOK.out, h1, h2, h3]; rfl))
        clear h1 h2 h3
        go_enter Try.func27, Try.ntmps27
        go_wp2_with fail
        rw [← hV]
        clear hV
        go_wp2_with (go_at_call 42; refine (l9Stamp_any _ _).mono ?_; (first | rw [H1.out] | rw [H2.out] | rw [H3.out]); rintro e v ⟨rfl, rfl⟩)
        refine bodyPost_ret (v := .tuple #[.agg #[.int .i64 0, .int .i64 0], .bool false]) (by simp [results, Try.results27, go_sem, r0, r1]) rfl ⟨by rw [HE.out.1, HE.out.2.1, HE.out.2.2], ?_⟩
        repeat (first | exact HBV.out | refine Below.setCell ?_ (by simp <;> omega) _)
      · have H3 := Lib.hid h3
        cases h4 : inR h 0 100000
        · have H4 := Lib.hid h4
          have HE := Lib.hid (HNO.out (by rw [HOK.out, h1, h2, h3, h4]; rfl))
          clear h1 h2 h3 h4
          go_enter Try.func27, Try.ntmps27
          go_wp2_with fail
          rw [← hV]
          clear hV
          go_wp2_with (go_at_call 42; refine (l9Stamp_any _ _).mono ?_; (first | rw [H1.out] | rw [H2.out] | rw [H3.out] | rw [H4.out]); rintro e v ⟨rfl, rfl⟩)
          refine bodyPost_ret (v := .tuple #[.agg #[.int .i64 0, .int .i64 0], .bool false]) (by simp [results, Try.results27, go_sem, r0, r1]) rfl ⟨by rw [HE.out.1, HE.out.2.1, HE.out.2.2], ?_⟩
          repeat (first | exact HBV.out | refine Below.setCell ?_ (by simp <;> omega) _)
        · have H4 := Lib.hid h4
          have b1 := inR_true.1 h1
          have b2 := inR_true.1 h2
          have b3 := inR_true.1 h3
          have b4 := inR_true.1 h4
          obtain ⟨x, hx⟩ : ∃ x, x = b - h := ⟨_, rfl⟩
          obtain ⟨y, hy⟩ : ∃ y, y = r - s := ⟨_, rfl⟩
          have w1 : IntKind.i64.wrap (b - h) = x := (IntWalk.i64_in _ (by omega)).trans hx.symm
          have w2 : IntKind.i64.wrap (r - s) = y := (IntWalk.i64_in _ (by omega)).trans hy.symm
          by_cases h5 : x ≤ y
          · have HE := Lib.hid (HYES.out (by rw [HOK.out, h1, h2, h3, h4, decide_eq_true (by omega)]; rfl))
            rw [← hx, ← hy] at HE
            have h6 : ¬ y < x := by omega
            clear h1 h2 h3 h4 b1 b2 b3 b4 hx hy
            go_enter Try.func27, Try.ntmps27
            go_wp2_with fail
            rw [← hV]
            clear hV
            go_wp2_with (go_at_call 42; refine (l9Stamp_any _ _).mono ?_; (first | rw [H1.out] | rw [H2.out] | rw [H3.out] | rw [H4.out]); rintro e v ⟨rfl, rfl⟩)
            refine bodyPost_ret (v := .tuple #[.agg #[.int .i64 x, .int .i64 y], .bool true]) (by simp [results, Try.results27, go_sem, r0, r1]) rfl ⟨by rw [HE.out.1, HE.out.2.1, HE.out.2.2], ?_⟩
            repeat (first | exact HBV.out | refine Below.setCell ?_ (by simp <;> omega) _)
          · have HE := Lib.hid (HNO.out (by rw [HOK.out, h1, h2, h3, h4, decide_eq_false (by omega)]; rfl))
            have h6 : y < x := by omega
            clear h1 h2 h3 h4 b1 b2 b3 b4 hx hy
            go_enter Try.func27, Try.ntmps27
            go_wp2_with fail
            rw [← hV]
            clear hV
            go_wp2_with (go_at_call 42; refine (l9Stamp_any _ _).mono ?_; (first | rw [H1.out] | rw [H2.out] | rw [H3.out] | rw [H4.out]); rintro e v ⟨rfl, rfl⟩)
            refine bodyPost_ret (v := .tuple #[.agg #[.int .i64 0, .int .i64 0], .bool false]) (by simp [results, Try.results27, go_sem, r0, r1]) rfl ⟨by rw [HE.out.1, HE.out.2.1, HE.out.2.2], ?_⟩
            repeat (first | exact HBV.out | refine Below.setCell ?_ (by simp <;> omega) _)
def oneOk (s r x y : Int) : Bool := inR s 0 100000 && (inR r 0 100000 && (isV x y && isV (maxV 0 (r - s - y)) (r - s - x)))
def oneLo (s r x y : Int) : Int := if oneOk s r x y = true then maxV 0 (r - s - y) else 0
def oneHi (s r x y : Int) : Int := if oneOk s r x y = true then r - s - x else 0
theorem one_no {s r x y : Int} (h : oneOk s r x y = false) : oneLo s r x y = 0 ∧ oneHi s r x y = 0 := by simp [oneLo, oneHi, h]
theorem one_yes {s r x y : Int} (h : oneOk s r x y = true) : oneLo s r x y = maxV 0 (r - s - y) ∧ oneHi s r x y = r - s - x := by simp [oneLo, oneHi, h]
set_option maxRecDepth 20000 in
set_option maxHeartbeats 3200000 in
theorem specOne_any (s r x y : Int) (W : World) : Calls Try.prog 28 #[.int .i64 s, .int .i64 r, .agg #[.int .i64 x, .int .i64 y]] W (IvRes (oneLo s r x y) (oneHi s r x y) (oneOk s r x y) W) := by
  obtain ⟨V, hV⟩ : ∃ V, V = (W.alloc (.cells #[.int .i64 x, .int .i64 y] 26)).alloc (.cells #[.int .i64 0, .int .i64 0] 26) := ⟨_, rfl⟩
  have HBV : Hid (Below W.heap.size W V) := Lib.hid (by rw [hV]; exact ((Below.refl _ _).alloc (Nat.le_refl _) _).alloc (by simp) _)
  have HP := Lib.hid (show PairAt V W.heap.size x y by rw [hV]; exact (pair_new W x y _).alloc _)
  have HR := Lib.hid (show PairAt V (W.heap.size + 1) 0 0 by rw [hV]; have h := pair_new (W.alloc (.cells #[.int .i64 x, .int .i64 y] 26)) 0 0 26; rw [World.size_alloc] at h; exact h)
  have hz : V.heap.size = W.heap.size + 2 := by rw [hV]; simp
  obtain ⟨lo, hlo⟩ : ∃ q, q = oneLo s r x y := ⟨_, rfl⟩
  obtain ⟨hi, hhi⟩ : ∃ q, q = oneHi s r x y := ⟨_, rfl⟩
  obtain ⟨t, ht⟩ : ∃ q, q = oneOk s r x y := ⟨_, rfl⟩
  have HNO : Hid (oneOk s r x y = false → lo = 0 ∧ hi = 0 ∧ t = false) := Lib.hid (fun q => ⟨hlo.trans (one_no q).1, hhi.trans (one_no q).2, ht.trans q⟩)
  have HYES : Hid (oneOk s r x y = true → lo = maxV 0 (r - s - y) ∧ hi = r - s - x ∧ t = true) := Lib.hid (fun q => ⟨hlo.trans (one_yes q).1, hhi.trans (one_yes q).2, ht.trans q⟩)
  have HOK : Hid (oneOk s r x y = (inR s 0 100000 && (inR r 0 100000 && (isV x y && isV (maxV 0 (r - s - y)) (r - s - x))))) := Lib.hid rfl
  rw [← hlo, ← hhi, ← ht]
  have p0 := HP.out.c0
  have p1 := HP.out.c1
  have r0 := HR.out.c0
  have r1 := HR.out.c1
  have s0 := HR.out.f0
  have s1 := HR.out.f1
  clear hlo hhi ht
  cases h1 : inR s 0 100000
  · have H1 := Lib.hid h1
    have HE := Lib.hid (HNO.out (by rw [HOK.out, h1]; rfl))
    clear h1
    go_enter Try.func28, Try.ntmps28
    go_wp2_with fail
    rw [← hV]
    clear hV
    go_wp2_with (go_at_call 42; refine (l9Stamp_any _ _).mono ?_; (first | rw [H1.out]); rintro e v ⟨rfl, rfl⟩)
    refine bodyPost_ret (v := .tuple #[.agg #[.int .i64 0, .int .i64 0], .bool false]) (by simp [results, Try.results28, go_sem, r0, r1]) rfl ⟨by rw [HE.out.1, HE.out.2.1, HE.out.2.2], ?_⟩
    repeat (first | exact HBV.out | refine Below.setCell ?_ (by simp <;> omega) _)
  · have H1 := Lib.hid h1
    cases h2 : inR r 0 100000
    · have H2 := Lib.hid h2
      have HE := Lib.hid (HNO.out (by rw [HOK.out, h1, h2]; rfl))
      clear h1 h2
      go_enter Try.func28, Try.ntmps28
      go_wp2_with fail
      rw [← hV]
      clear hV
      go_wp2_with (go_at_call 42; refine (l9Stamp_any _ _).mono ?_; (first | rw [H1.out] | rw [H2.out]); rintro e v ⟨rfl, rfl⟩)
      refine bodyPost_ret (v := .tuple #[.agg #[.int .i64 0, .int .i64 0], .bool false]) (by simp [results, Try.results28, go_sem, r0, r1]) rfl ⟨by rw [HE.out.1, HE.out.2.1, HE.out.2.2], ?_⟩
      repeat (first | exact HBV.out | refine Below.setCell ?_ (by simp <;> omega) _)
    · have H2 := Lib.hid h2
      cases h3 : isV x y
      · have H3 := Lib.hid h3
        have HE := Lib.hid (HNO.out (by rw [HOK.out, h1, h2, h3]; rfl))
        clear h1 h2 h3
        go_enter Try.func28, Try.ntmps28
        go_wp2_with fail
        rw [← hV]
        clear hV
        go_wp2_with (first | (go_at_call 42; refine (l9Stamp_any _ _).mono ?_; (first | rw [H1.out] | rw [H2.out]); rintro e v ⟨rfl, rfl⟩) | (go_at_call 18; refine (specIv_any _ _ _).mono ?_; rw [H3.out]; rintro e w4 ⟨rfl, hb⟩; have HBV := Lib.hid (below_up HBV.out hb (Nat.le_refl _)); have HR := Lib.hid (HR.out.below hb); have r0 := HR.out.c0; have r1 := HR.out.c1; have s0 := HR.out.f0; have s1 := HR.out.f1; clear hb))
        refine bodyPost_ret (v := .tuple #[.agg #[.int .i64 0, .int .i64 0], .bool false]) (by simp [results, Try.results28, go_sem, r0, r1]) rfl ⟨by rw [HE.out.1, HE.out.2.1, HE.out.2.2], ?_⟩
        repeat (first | exact HBV.out | refine Below.setCell ?_ (by simp <;> omega) _)
      · have H3 := Lib.hid h3
        have b1 := inR_true.1 h1
        have b2 := inR_true.1 h2
        obtain ⟨b3, b4, b5⟩ := isV_true.1 h3
        obtain ⟨d, hd⟩ : ∃ d, d = r - s := ⟨_, rfl⟩
        obtain ⟨u, hu⟩ : ∃ u, u = d - y := ⟨_, rfl⟩
        obtain ⟨v, hv⟩ : ∃ v, v = d - x := ⟨_, rfl⟩
        have w1 : IntKind.i64.wrap (r - s) = d := (IntWalk.i64_in _ (by omega)).trans hd.symm
        have w2 : IntKind.i64.wrap (d - y) = u := (IntWalk.i64_in _ (by omega)).trans hu.symm
        have w3 : IntKind.i64.wrap (d - x) = v := (IntWalk.i64_in _ (by omega)).trans hv.symm
        obtain ⟨m, hm⟩ : ∃ m, m = maxV 0 u := ⟨_, rfl⟩
        have HM := Lib.hid hm
        have HOK2 : Hid (oneOk s r x y = isV m v) := Lib.hid (by rw [HOK.out, h1, h2, h3, hm, hu, hv, hd]; rfl)
        have HYES2 : Hid (oneOk s r x y = true → lo = m ∧ hi = v ∧ t = true) := Lib.hid (fun q => by have h := HYES.out q; rw [← hd, ← hu, ← hv, ← hm] at h; exact h)
        clear h1 h2 h3 b1 b2 b3 b4 b5 hd hu hv hm
        go_enter Try.func28, Try.ntmps28
        go_wp2_with fail
        rw [← hV]
        clear hV
        go_wp2_with (first
          | (go_at_call 42; refine (l9Stamp_any _ _).mono ?_; (first | rw [H1.out] | rw [H2.out]); rintro e v ⟨rfl, rfl⟩)
          | (go_at_call 18; refine (specIv_any _ _ _).mono ?_; rw [H3.out]; rintro e w4 ⟨rfl, hb⟩; have HB4 := Lib.hid hb; have HP4 := Lib.hid (HP.out.below hb); have HR4 := Lib.hid (HR.out.below hb); have p0 := HP4.out.c0; have p1 := HP4.out.c1; have n0 := World.new_ne _ _ p0; clear hb))
        go_cut [8] (CutV w4 m v)
        case first =>
          go_region_held3 (fun w' => w'.cell? ⟨W.heap.size, 0, none⟩ = some (.int .i64 x) ∧ w'.cell? ⟨W.heap.size, 1, none⟩ = some (.int .i64 y)) (go_keep) (first
            | (go_at_call 39; refine (specMax_any 0 u _).mono ?_; rw [← HM.out]; rintro e w' ⟨rfl, rfl⟩))
          all_goals go_wp2_with fail
          all_goals go_meet
          all_goals exact ⟨_, rfl, (pair_new w4 m v 26).drew, ((Below.refl w4.heap.size w4).alloc (Nat.le_refl _) _).drew⟩
        case rest =>
          obtain ⟨g, rfl, hpg, hbg⟩ := hcut
          have HR5 := Lib.hid (HR4.out.below hbg)
          have HX5 := Lib.hid hpg
          have HB5 := Lib.hid (below_up HB4.out hbg (Nat.le_refl _))
          clear p0 p1 r0 r1 s0 s1 n0 hpg hbg
          have x0 := HX5.out.c0
          have x1 := HX5.out.c1
          cases h4 : isV m v
          · have H4 := Lib.hid h4
            have HE := Lib.hid (HNO.out (by rw [HOK2.out, h4]))
            clear h4
            go_wp2_with (go_at_call 18; refine (specIv_any _ _ _).mono ?_; rw [H4.out]; rintro e w6 ⟨rfl, hb⟩; have HBV := Lib.hid (HBV.out.trans ((below_up HB5.out hb (Nat.le_refl _)).mono HBV.out.size)); have HR := Lib.hid (HR5.out.below hb); have HX := Lib.hid (HX5.out.below hb); have r0 := HR.out.c0; have r1 := HR.out.c1; have s0 := HR.out.f0; have s1 := HR.out.f1; have x0 := HX.out.c0; have x1 := HX.out.c1; clear hb)
            refine bodyPost_ret (v := .tuple #[.agg #[.int .i64 0, .int .i64 0], .bool false]) (by simp [results, Try.results28, go_sem, r0, r1]) rfl ⟨by rw [HE.out.1, HE.out.2.1, HE.out.2.2], ?_⟩
            repeat (first | exact HBV.out | refine Below.setCell ?_ (by simp <;> omega) _)
          · have H4 := Lib.hid h4
            have HE := Lib.hid (HYES2.out (by rw [HOK2.out, h4]))
            clear h4
            go_wp2_with (go_at_call 18; refine (specIv_any _ _ _).mono ?_; rw [H4.out]; rintro e w6 ⟨rfl, hb⟩; have HBV := Lib.hid (HBV.out.trans ((below_up HB5.out hb (Nat.le_refl _)).mono HBV.out.size)); have HR := Lib.hid (HR5.out.below hb); have HX := Lib.hid (HX5.out.below hb); have r0 := HR.out.c0; have r1 := HR.out.c1; have s0 := HR.out.f0; have s1 := HR.out.f1; have x0 := HX.out.c0; have x1 := HX.out.c1; clear hb)
            refine bodyPost_ret (v := .tuple #[.agg #[.int .i64 m, .int .i64 v], .bool true]) (by simp [results, Try.results28, go_sem, r0, r1]) rfl ⟨by rw [HE.out.1, HE.out.2.1, HE.out.2.2], ?_⟩
            repeat (first | exact HBV.out | refine Below.setCell ?_ (by simp <;> omega) _)
end Go.Proofs.Ytiehnhocmoodaaa
