/- MayBeOne and SurelyApart, the program's. -/
import Derived.Test.YtgninjdnfidpcaaAlE
import Derived.Test.YtgninjdnfidpcaaAlP2
namespace Go.Proofs.Ytgninjdnfidpcaa
open Go.RowKit
theorem SeesY.addr {w : World} {a : Option Addr} {len : Nat} {xs : List (Int × Int × Int)} (h : SeesY w a len xs) (ha : a = none) : len = 0 := by
  rcases h.2.2 with h0 | ⟨b, off, h1, _⟩
  · exact h0
  · rw [ha] at h1; cases h1
set_option maxHeartbeats 3200000 in
theorem may1_good (W : World) (p q : Nat) (a : Option Addr) (len cap : Nat) (xs : List (Int × Int × Int)) (c : Option Addr) (la ca : Nat) (ad : List Int) (hl : len ≤ 1073741824) (hs : SeesY W a len xs) (hla : la ≤ 1073741824) (hsa : Sees .i64 W c la ad)
    (hp : p < W.heap.size) (hq : q < W.heap.size) (cp : W.cell? ⟨p, 0, none⟩ = some (.slice a len cap)) (cq : W.cell? ⟨q, 0, none⟩ = some (.slice c la ca)) (h : areR xs = true) :
    Calls Try.prog 81 #[.pointer (some ⟨p, 0, none⟩), .pointer (some ⟨q, 0, none⟩)] W fun e w' => e = .returned (.bool (mayB xs ad)) ∧ Below W.heap.size W w' := by
  have HBT := Lib.hid (fun V hV => byTime_good V a len cap xs hl ((hs.below hV : SeesY V a len xs)) hs.addr h)
  have HSA := Lib.hid hsa
  have HR := Lib.hid h
  have HCP := Lib.hid (And.intro cp cq)
  clear hs hsa h
  go_enter Try.func81, Try.ntmps81
  go_wp2_with fail
  go_region_held3 (fun w' => w'.cell? ⟨p, 0, none⟩ = some (.slice a len cap) ∧ w'.cell? ⟨q, 0, none⟩ = some (.slice c la ca)) (go_keep) (first
    | (go_at_call 72; refine (HBT.out _ (Below.refl _ _).drew).mono ?_; rintro e w1 ⟨a1, l1, c1, ys, rfl, hys, ho1, hb1⟩; have HYS := Lib.hid hys; have HO1 := Lib.hid ho1.sees; have hl1 : l1 ≤ 1073741824 := (by rw [← ho1.1, ← hys.1.length_eq]; have := (areR_true.1 HR.out).2; omega); have HB1 := Lib.hid (below_up (Below.refl _ _).drew hb1 (Nat.le_refl _)); have cp := (HB1.out.cell (p := ⟨p, 0, none⟩) hp).trans HCP.out.1; have cq := (HB1.out.cell (p := ⟨q, 0, none⟩) hq).trans HCP.out.2; clear hys ho1 hb1)
    | (go_at_call 82; refine (idsP_any _ _ _ _ ys _ _ _ ad hl1 HO1.out hla (HSA.out.below HB1.out)).mono ?_; rw [sorted_may HR.out HYS.out]; rintro e w2 ⟨rfl, hb2⟩; have HB2 := Lib.hid (below_up HB1.out hb2 (Nat.le_refl _)); have cp := (HB2.out.cell (p := ⟨p, 0, none⟩) hp).trans HCP.out.1; have cq := (HB2.out.cell (p := ⟨q, 0, none⟩) hq).trans HCP.out.2; clear hb2))
  go_wp2
  go_ret
  exact ⟨rfl, HB2.out⟩
set_option maxHeartbeats 3200000 in
theorem may1_bad (W : World) (p q : Nat) (a : Option Addr) (len cap : Nat) (xs : List (Int × Int × Int)) (c : Option Addr) (la ca : Nat) (hl : len ≤ 1073741824) (hs : SeesY W a len xs)
    (cp : W.cell? ⟨p, 0, none⟩ = some (.slice a len cap)) (cq : W.cell? ⟨q, 0, none⟩ = some (.slice c la ca)) (h : areR xs = false) :
    Calls Try.prog 81 #[.pointer (some ⟨p, 0, none⟩), .pointer (some ⟨q, 0, none⟩)] W (Panics W) := by
  have HBT := Lib.hid (fun V hV => byTime_bad V a len cap xs hl ((hs.below hV : SeesY V a len xs)) h)
  have HCP := Lib.hid (And.intro cp cq)
  clear hs h
  go_enter Try.func81, Try.ntmps81
  go_wp2_with fail
  refine wp_region_held_drew (S := fun w' => w'.cell? ⟨p, 0, none⟩ = some (.slice a len cap) ∧ w'.cell? ⟨q, 0, none⟩ = some (.slice c la ca)) (by kernel_rfl) ?_ (fun hHeld => ?_)
  · exact HCP.out
  refine take_val 0 (some 3) (.slice a len cap) (by kernel_rfl) (by kernel_rfl) (by kernel_rfl) (fun _ _ _ h => h) ⟨_, rfl, rfl, by rfl, fun w hSw => by go_simp⟩ (by assumption) ?_
  try simp only [Act.put, List.setIfInBounds_toArray, List.set_cons_zero, List.set_cons_succ]
  refine take_val 2 (some 5) (.slice c la ca) (by kernel_rfl) (by kernel_rfl) (by kernel_rfl) (fun _ _ _ h => h) ⟨_, rfl, rfl, by rfl, fun w hSw => by go_simp⟩ (by assumption) ?_
  try simp only [Act.put, List.setIfInBounds_toArray, List.set_cons_zero, List.set_cons_succ]
  refine wpAnyH_ready (rs := [1]) (by kernel_rfl) (by simp) ?_
  refine AllReadyH.cons rfl (fun K hK => ?_) AllReadyH.nil
  go_simp
  go_at_call 72
  refine (HBT.out _ (Below.refl _ _).drew).mono ?_
  rintro e w1 ⟨pv, rfl, hb1⟩
  exact ⟨rfl, pv, rfl, below_up (Below.refl _ _).drew hb1 (Nat.le_refl _)⟩
set_option maxHeartbeats 1600000 in
theorem mayP_any (W : World) (a : Option Addr) (len cap : Nat) (xs : List (Int × Int × Int)) (c : Option Addr) (la ca : Nat) (ad : List Int) (hl : len ≤ 1073741824) (hs : SeesY W a len xs) (hla : la ≤ 1073741824) (hsa : Sees .i64 W c la ad) :
    Calls Try.prog 39 #[.slice a len cap, .slice c la ca] W fun e w' => e = .returned (.bool (mayB xs ad)) ∧ Below W.heap.size W w' := by
  obtain ⟨V, hV⟩ : ∃ V, V = (W.alloc (.cells #[.slice a len cap] 48)).alloc (.cells #[.slice c la ca] 24) := ⟨_, rfl⟩
  have hBV : Below W.heap.size W V := by rw [hV]; exact ((Below.refl _ _).alloc (Nat.le_refl _) _).alloc (by simp) _
  have hsV : V.heap.size = W.heap.size + 2 := by rw [hV]; simp
  have c0 : V.cell? ⟨W.heap.size, 0, none⟩ = some (.slice a len cap) := by rw [hV]; simp
  have c1 : V.cell? ⟨W.heap.size + 1, 0, none⟩ = some (.slice c la ca) := by rw [hV]; simp
  have h0 : W.heap.size < V.heap.size := by omega
  have h1 : W.heap.size + 1 < V.heap.size := by omega
  have HX : Hid (Calls Try.prog 80 #[.bool false, .func (.func 81) #[] #[.pointer (some ⟨W.heap.size, 0, none⟩), .pointer (some ⟨W.heap.size + 1, 0, none⟩)]] V fun e w' => e = .returned (.bool (mayB xs ad)) ∧ Below V.heap.size V w') := Lib.hid (by
    cases hA : areR xs
    · have e0 : mayB xs ad = false := by unfold mayB; rw [hA, Bool.and_false]
      rw [e0]
      exact orB_no V (.bool false) (fun _ _ => by kernel_rfl) ⟨_, rfl⟩ (fun U hU _ => may1_bad U _ _ a len cap xs c la ca hl (hs.below (below_up hBV hU (Nat.le_refl _))) ((hU.cell h0).trans c0) ((hU.cell h1).trans c1) hA)
    · exact orB_any V false _ (fun _ _ => by kernel_rfl) (fun U hU => may1_good U _ _ a len cap xs c la ca ad hl (hs.below (below_up hBV hU (Nat.le_refl _))) hla (hsa.below (below_up hBV hU (Nat.le_refl _))) (Nat.lt_of_lt_of_le h0 hU.size) (Nat.lt_of_lt_of_le h1 hU.size) ((hU.cell h0).trans c0) ((hU.cell h1).trans c1) hA))
  have HB := Lib.hid hBV
  have HV := Lib.hid hV
  clear hs hsa c0 c1 h0 h1 hBV hsV hV
  have hmf : ∀ (fn : Fn) (first cap : Array Value) (w : World), (Instr.makeFunc fn first cap).run Try.prog w = .ok (.func fn first cap) w := fun _ _ _ _ => rfl
  go_enter Try.func39, Try.ntmps39
  go_wp2_with fail
  rw [← HV.out]
  go_wp2_with (go_at_call 80; refine HX.out.mono ?_; rintro e w2 ⟨rfl, hb2⟩; have HB2 := Lib.hid (below_up HB.out hb2 (Nat.le_refl _)); clear hb2)
  go_ret
  exact ⟨rfl, HB2.out⟩
set_option maxHeartbeats 3200000 in
theorem sure1_good (W : World) (p q r : Nat) (a : Option Addr) (len cap : Nat) (xs : List (Int × Int × Int)) (x y : Int) (hl : len ≤ 1073741824) (hs : SeesY W a len xs) (hx : (Lit.int .i64 x).wf = true) (hy : (Lit.int .i64 y).wf = true)
    (hp : p < W.heap.size) (hq : q < W.heap.size) (hr : r < W.heap.size) (cp : W.cell? ⟨p, 0, none⟩ = some (.slice a len cap)) (cq : W.cell? ⟨q, 0, none⟩ = some (.int .i64 x)) (cr : W.cell? ⟨r, 0, none⟩ = some (.int .i64 y)) (h : areR xs = true) :
    Calls Try.prog 83 #[.pointer (some ⟨p, 0, none⟩), .pointer (some ⟨q, 0, none⟩), .pointer (some ⟨r, 0, none⟩)] W fun e w' => e = .returned (.bool (!mayB xs [x, y])) ∧ Below W.heap.size W w' := by
  have HBT := Lib.hid (fun V hV => byTime_good V a len cap xs hl ((hs.below hV : SeesY V a len xs)) hs.addr h)
  have HR := Lib.hid h
  have HX := Lib.hid hx
  have HY := Lib.hid hy
  have HCP := Lib.hid (And.intro cp (And.intro cq cr))
  clear hs h hx hy
  go_enter Try.func83, Try.ntmps83
  go_wp2_with fail
  go_region_held3 (fun w' => w'.cell? ⟨p, 0, none⟩ = some (.slice a len cap) ∧ w'.cell? ⟨q, 0, none⟩ = some (.int .i64 x) ∧ w'.cell? ⟨r, 0, none⟩ = some (.int .i64 y)) (go_keep) (first
    | (go_at_call 72; refine (HBT.out _ (Below.refl _ _).drew).mono ?_; rintro e w1 ⟨a1, l1, c1, ys, rfl, hys, ho1, hb1⟩; have HYS := Lib.hid hys; have hl1 : l1 ≤ 1073741824 := (by rw [← ho1.1, ← hys.1.length_eq]; have := (areR_true.1 HR.out).2; omega); have HB0 := Lib.hid (below_up (Below.refl _ _).drew hb1 (Nat.le_refl _)); have cp := (HB0.out.cell (p := ⟨p, 0, none⟩) hp).trans HCP.out.1; have cq := (HB0.out.cell (p := ⟨q, 0, none⟩) hq).trans HCP.out.2.1; have cr := (HB0.out.cell (p := ⟨r, 0, none⟩) hr).trans HCP.out.2.2; have HO1 := Lib.hid (ho1.sees.alloc (.cells #[.int .i64 x, .int .i64 y] 3)); have HS2 := Lib.hid (sees_two HX.out HY.out w1 3); have HB1 := Lib.hid (HB0.out.alloc HB0.out.size (.cells #[.int .i64 x, .int .i64 y] 3)); clear hys ho1 hb1)
    | (go_at_call 72; refine (HBT.out _ ((Below.refl _ _).drew.alloc (Nat.le_refl _) _)).mono ?_; rintro e w1 ⟨a1, l1, c1, ys, rfl, hys, ho1, hb1⟩; have HYS := Lib.hid hys; have hl1 : l1 ≤ 1073741824 := (by rw [← ho1.1, ← hys.1.length_eq]; have := (areR_true.1 HR.out).2; omega); have HB1 := Lib.hid (below_up ((Below.refl _ _).drew.alloc (Nat.le_refl _) _) hb1 (Nat.le_refl _)); have cp := (HB1.out.cell (p := ⟨p, 0, none⟩) hp).trans HCP.out.1; have cq := (HB1.out.cell (p := ⟨q, 0, none⟩) hq).trans HCP.out.2.1; have cr := (HB1.out.cell (p := ⟨r, 0, none⟩) hr).trans HCP.out.2.2; have HO1 := Lib.hid ho1.sees; have HS2 := Lib.hid ((sees_two HX.out HY.out W.drew 3).below hb1); clear hys ho1 hb1)
    | (go_at_call 82; refine (idsP_any _ _ _ _ ys _ _ _ [x, y] hl1 HO1.out (by decide) HS2.out).mono ?_; rw [sorted_may HR.out HYS.out]; rintro e w2 ⟨rfl, hb2⟩; have HB2 := Lib.hid (below_up HB1.out hb2 (Nat.le_refl _)); have cp := (HB2.out.cell (p := ⟨p, 0, none⟩) hp).trans HCP.out.1; have cq := (HB2.out.cell (p := ⟨q, 0, none⟩) hq).trans HCP.out.2.1; have cr := (HB2.out.cell (p := ⟨r, 0, none⟩) hr).trans HCP.out.2.2; clear hb2))
  all_goals
    go_wp2
    go_ret
    exact ⟨rfl, HB2.out⟩
set_option maxHeartbeats 3200000 in
theorem sure1_bad (W : World) (p q r : Nat) (a : Option Addr) (len cap : Nat) (xs : List (Int × Int × Int)) (x y : Int) (hl : len ≤ 1073741824) (hs : SeesY W a len xs)
    (hp : p < W.heap.size) (hq : q < W.heap.size) (hr : r < W.heap.size) (cp : W.cell? ⟨p, 0, none⟩ = some (.slice a len cap)) (cq : W.cell? ⟨q, 0, none⟩ = some (.int .i64 x)) (cr : W.cell? ⟨r, 0, none⟩ = some (.int .i64 y)) (h : areR xs = false) :
    Calls Try.prog 83 #[.pointer (some ⟨p, 0, none⟩), .pointer (some ⟨q, 0, none⟩), .pointer (some ⟨r, 0, none⟩)] W (Panics W) := by
  have HBT := Lib.hid (fun V hV => byTime_bad V a len cap xs hl ((hs.below hV : SeesY V a len xs)) h)
  have HCP := Lib.hid (And.intro cp (And.intro cq cr))
  clear hs h
  go_enter Try.func83, Try.ntmps83
  go_wp2_with fail
  refine wp_region_held_drew (S := fun w' => w'.cell? ⟨p, 0, none⟩ = some (.slice a len cap) ∧ w'.cell? ⟨q, 0, none⟩ = some (.int .i64 x) ∧ w'.cell? ⟨r, 0, none⟩ = some (.int .i64 y)) (by kernel_rfl) ?_ (fun hHeld => ?_)
  · exact HCP.out
  refine take_val 0 (some 4) (.slice a len cap) (by kernel_rfl) (by kernel_rfl) (by kernel_rfl) (fun _ _ _ h => h) ⟨_, rfl, rfl, by rfl, fun w hSw => by go_simp⟩ (by assumption) ?_
  try simp only [Act.put, List.setIfInBounds_toArray, List.set_cons_zero, List.set_cons_succ]
  refine take_val 2 (some 6) (.int .i64 x) (by kernel_rfl) (by kernel_rfl) (by kernel_rfl) (fun _ _ _ h => h) ⟨_, rfl, rfl, by rfl, fun w hSw => by go_simp⟩ (by assumption) ?_
  try simp only [Act.put, List.setIfInBounds_toArray, List.set_cons_zero, List.set_cons_succ]
  refine take_val 3 (some 7) (.int .i64 y) (by kernel_rfl) (by kernel_rfl) (by kernel_rfl) (fun _ _ _ h => h) ⟨_, rfl, rfl, by rfl, fun w hSw => by go_simp⟩ (by assumption) ?_
  try simp only [Act.put, List.setIfInBounds_toArray, List.set_cons_zero, List.set_cons_succ]
  refine wpAnyH_ready (rs := [1, 4]) (by kernel_rfl) (by simp) ?_
  refine AllReadyH.cons rfl (fun K hK => ?_) (AllReadyH.cons rfl (fun K hK => ?_) AllReadyH.nil)
  · go_simp
    go_at_call 72
    refine (HBT.out _ (Below.refl _ _).drew).mono ?_
    rintro e w1 ⟨pv, rfl, hb1⟩
    exact ⟨rfl, pv, rfl, below_up (Below.refl _ _).drew hb1 (Nat.le_refl _)⟩
  · go_simp
    have hbA : Below W.heap.size W ((W.alloc (.cells #[.int .i64 x, .int .i64 y] 3)).drew) := ((Below.refl _ _).alloc (Nat.le_refl _) _).drew
    clear hHeld
    refine hK.out _ _ ⟨(hbA.cell (p := ⟨p, 0, none⟩) hp).trans HCP.out.1, (hbA.cell (p := ⟨q, 0, none⟩) hq).trans HCP.out.2.1, (hbA.cell (p := ⟨r, 0, none⟩) hr).trans HCP.out.2.2⟩ (fun hHeld => ?_)
    clear hK K
    try simp only [Act.put, List.setIfInBounds_toArray, List.set_cons_zero, List.set_cons_succ]
    refine wpAnyH_ready (rs := [1]) (by kernel_rfl) (by simp) ?_
    refine AllReadyH.cons rfl (fun K hK => ?_) AllReadyH.nil
    go_simp
    go_at_call 72
    refine (HBT.out _ hbA).mono ?_
    rintro e w1 ⟨pv, rfl, hb1⟩
    exact ⟨rfl, pv, rfl, below_up hbA hb1 (Nat.le_refl _)⟩
set_option maxHeartbeats 1600000 in
theorem sureP_any (W : World) (a : Option Addr) (len cap : Nat) (xs : List (Int × Int × Int)) (x y : Int) (hl : len ≤ 1073741824) (hs : SeesY W a len xs) (hx : (Lit.int .i64 x).wf = true) (hy : (Lit.int .i64 y).wf = true) :
    Calls Try.prog 40 #[.slice a len cap, .int .i64 x, .int .i64 y] W fun e w' => e = .returned (.bool (sureB xs x y)) ∧ Below W.heap.size W w' := by
  obtain ⟨V, hV⟩ : ∃ V, V = ((W.alloc (.cells #[.slice a len cap] 48)).alloc (.cells #[.int .i64 x] 3)).alloc (.cells #[.int .i64 y] 3) := ⟨_, rfl⟩
  have hBV : Below W.heap.size W V := by rw [hV]; exact (((Below.refl _ _).alloc (Nat.le_refl _) _).alloc (by simp) _).alloc (by simp <;> omega) _
  have hsV : V.heap.size = W.heap.size + 3 := by rw [hV]; simp
  obtain ⟨V2, hV2⟩ : ∃ V2, V2 = (W.alloc (.cells #[.slice a len cap] 48)).alloc (.cells #[.int .i64 x] 3) := ⟨_, rfl⟩
  have d0 : V2.cell? ⟨W.heap.size, 0, none⟩ = some (.slice a len cap) := by rw [hV2]; simp
  have d1 : V2.cell? ⟨W.heap.size + 1, 0, none⟩ = some (.int .i64 x) := by rw [hV2]; simp
  have hs2 : V2.heap.size = W.heap.size + 1 + 1 := by rw [hV2]; simp
  have hB2 : Below V2.heap.size V2 V := by rw [hV, ← hV2]; exact (Below.refl _ _).alloc (Nat.le_refl _) _
  have c0 : V.cell? ⟨W.heap.size, 0, none⟩ = some (.slice a len cap) := (hB2.cell (p := ⟨W.heap.size, 0, none⟩) (by rw [hs2]; exact Nat.lt_succ_of_lt (Nat.lt_succ_self _))).trans d0
  have c1 : V.cell? ⟨W.heap.size + 1, 0, none⟩ = some (.int .i64 x) := (hB2.cell (p := ⟨W.heap.size + 1, 0, none⟩) (by rw [hs2]; exact Nat.lt_succ_self _)).trans d1
  have c2 : V.cell? ⟨W.heap.size + 1 + 1, 0, none⟩ = some (.int .i64 y) := by
    have h := World.cell?_alloc_new V2 #[.int .i64 y] 3 0
    rw [hs2] at h
    rw [hV, ← hV2, h]
    rfl
  have h0 : W.heap.size < V.heap.size := by omega
  have h1 : W.heap.size + 1 < V.heap.size := by omega
  have h2 : W.heap.size + 1 + 1 < V.heap.size := by omega
  have HX : Hid (Calls Try.prog 80 #[.bool false, .func (.func 83) #[] #[.pointer (some ⟨W.heap.size, 0, none⟩), .pointer (some ⟨W.heap.size + 1, 0, none⟩), .pointer (some ⟨W.heap.size + 1 + 1, 0, none⟩)]] V fun e w' => e = .returned (.bool (sureB xs x y)) ∧ Below V.heap.size V w') := Lib.hid (by
    cases hA : areR xs
    · have e0 : sureB xs x y = false := by unfold sureB; rw [hA, Bool.false_and]
      rw [e0]
      exact orB_no V (.bool false) (fun _ _ => by kernel_rfl) ⟨_, rfl⟩ (fun U hU _ => sure1_bad U _ _ _ a len cap xs x y hl (hs.below (below_up hBV hU (Nat.le_refl _))) (Nat.lt_of_lt_of_le h0 hU.size) (Nat.lt_of_lt_of_le h1 hU.size) (Nat.lt_of_lt_of_le h2 hU.size) ((hU.cell h0).trans c0) ((hU.cell h1).trans c1) ((hU.cell h2).trans c2) hA)
    · have e0 : sureB xs x y = !mayB xs [x, y] := by unfold sureB; rw [hA, Bool.true_and]
      rw [e0]
      exact orB_any V false _ (fun _ _ => by kernel_rfl) (fun U hU => sure1_good U _ _ _ a len cap xs x y hl (hs.below (below_up hBV hU (Nat.le_refl _))) hx hy (Nat.lt_of_lt_of_le h0 hU.size) (Nat.lt_of_lt_of_le h1 hU.size) (Nat.lt_of_lt_of_le h2 hU.size) ((hU.cell h0).trans c0) ((hU.cell h1).trans c1) ((hU.cell h2).trans c2) hA))
  have HB := Lib.hid hBV
  have HV := Lib.hid hV
  clear hs hx hy c0 c1 c2 h0 h1 h2 hBV hsV d0 d1 hs2 hB2 hV2 hV
  clear V2
  have hmf : ∀ (fn : Fn) (first cap : Array Value) (w : World), (Instr.makeFunc fn first cap).run Try.prog w = .ok (.func fn first cap) w := fun _ _ _ _ => rfl
  go_enter Try.func40, Try.ntmps40
  go_wp2_with fail
  rw [← HV.out]
  go_wp2_with (go_at_call 80; refine HX.out.mono ?_; rintro e w2 ⟨rfl, hb2⟩; have HB2 := Lib.hid (below_up HB.out hb2 (Nat.le_refl _)); clear hb2)
  go_ret
  exact ⟨rfl, HB2.out⟩
end Go.Proofs.Ytgninjdnfidpcaa
