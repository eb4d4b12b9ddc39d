/- The walk of the law on branches. -/
import Derived.Test.YtgninjdnfidpcaaBrP
import Derived.Test.YtgninjdnfidpcaaDraw12b
import Derived.Test.YtgninjdnfidpcaaBig
import Derived.Test.YtgninjdnfidpcaaCont
namespace Go.Proofs.Ytgninjdnfidpcaa
open Go.RowKit
theorem seenN_in {nd : Int} {nx fl : List Int} {x : Int} (h : x ∈ seenN nd nx fl) : x ∈ nx := by
  obtain ⟨f, _, rfl, h0⟩ := seenK12_mem.1 h
  exact (nextV_mem h0).1
theorem seenN_all {nd : Int} {nx fl : List Int} {f : Int} (hf : f ∈ fl) (h : 0 ≤ nextV nd nx f) : nextV nd nx f ∈ seenN nd nx fl :=
  seenK12_mem.2 ⟨f, by rw [List.take_length]; exact hf, rfl, h⟩
theorem asc_atB {l : List Int} (h : Asc l) {j k : Nat} (hj : j < k) (hk : k < l.length) : l.getD j 0 < l.getD k 0 := by
  have := List.pairwise_iff_getElem.1 h j k (by omega) hk hj
  simpa [List.getD, hk, show j < l.length by omega] using this
theorem seenN_asc {nd : Int} {nx fl : List Int} {j k : Nat} (hj : j < k) (hk : k < (seenN nd nx fl).length) : (seenN nd nx fl).getD j 0 < (seenN nd nx fl).getD k 0 := asc_atB (seenK12_asc nd nx fl fl.length) hj hk
theorem hasB_of {l : List Int} {x : Int} (h : x ∈ l) : hasB l x = true := decide_eq_true h
theorem seenN_len (nd : Int) (nx fl : List Int) : (seenN nd nx fl).length ≤ fl.length := seenK12_len nd nx fl fl.length
/-- What is true of the least number of tries. -/
theorem tries_facts (n p : Int) : triesV n p = -1 ∨ ∃ T : Nat, triesV n p = (T : Int) ∧ T < 21 ∧ (∀ j, j < T → hitAt n p j = false) ∧ hitAt n p T = true := by
  unfold triesV
  split
  · split
    · rename_i h
      have hl : triesI n p < (List.range 21).length := by simpa using h
      refine .inr ⟨triesI n p, rfl, h, fun j hj => ?_, ?_⟩
      · have := List.not_of_lt_findIdx (p := hitAt n p) (xs := List.range 21) (i := j) hj
        simpa using this
      · have e : (List.range 21)[triesI n p]'hl = triesI n p := by simp
        have h2 : hitAt n p ((List.range 21)[triesI n p]'hl) = true := List.findIdx_getElem (p := hitAt n p) (xs := List.range 21) (w := hl)
        rw [e] at h2
        exact h2
    · exact .inl rfl
  · exact .inl rfl
set_option maxRecDepth 20000 in
set_option maxHeartbeats 6400000 in
theorem branch_small (W : World) (a0 : Option Addr) (len0 cap0 : Nat) (hl : len0 ≤ 1048576) (hc : CodeAt W W.heap.size a0 len0) : Calls Try.prog 3 #[.slice a0 len0 cap0] W fun e W' => e = .returned (.bool true) ∧ Below W.heap.size W W' := by
  have HC := Lib.hid hc
  clear hc
  go_enter Try.func3, Try.ntmps3
  go_wp2_with fail
  go_at_call 12
  refine (big_no _ a0 len0 cap0 hl).mono ?_
  rintro e w0 ⟨rfl, rfl⟩
  go_wp2_with fail
  go_at_call 13
  refine (drawBr_any _ a0 len0 cap0 hl HC.out).mono ?_
  rintro e w1 ⟨nd, a, len, cap, nx, q, lf, cf, fl, hn, hl5, hlc, hl6, rfl, hs1, hf1, hb1⟩
  have HNW := Lib.hid hn
  have HS1 := Lib.hid hs1
  have HF1 := Lib.hid hf1
  have HB1 := Lib.hid hb1
  have hlen : len ≤ 1073741824 := by omega
  have HC1 := Lib.hid (HC.out.below hb1)
  have hz1 := hb1.size
  clear hs1 hf1 hb1 hn
  go_wp2_with fail
  obtain ⟨V, hV⟩ : ∃ V, V = w1.alloc (.cells #[.int .i64 nd, .slice a len cap] 26) := ⟨_, rfl⟩
  have HXV := Lib.hid (show BrD V w1.heap.size nd a len cap by rw [hV]; exact brD_new _ _ _ _ _ _)
  have HBV := Lib.hid (show Below W.heap.size W V by rw [hV]; exact HB1.out.alloc hz1 _)
  have HSV := Lib.hid (show Sees .i64 V a len nx by rw [hV]; exact HS1.out.alloc _)
  have HFV := Lib.hid (show Sees .i64 V q lf fl by rw [hV]; exact HF1.out.alloc _)
  rw [← hV]
  clear hV HS1 HF1 HB1
  obtain ⟨g, hg⟩ : ∃ g, g = w1.heap.size := ⟨_, rfl⟩
  rw [← hg] at HXV
  rw [← hg]
  clear hg
  go_at_call 14
  refine (seenNP_any _ nd a len cap nx q lf cf fl hlen hlc HSV.out HNW.out (by omega) HFV.out).mono ?_
  rintro e w2 ⟨al, ll, cl, rfl, ho2, hb2⟩
  have HL2 := Lib.hid ho2.sees
  have HX2 := Lib.hid (HXV.out.below hb2)
  have HS2 := Lib.hid (HSV.out.below hb2)
  have HF2 := Lib.hid (HFV.out.below hb2)
  have HB2 := Lib.hid (below_up HBV.out hb2 (Nat.le_refl _))
  have hll : ll ≤ 6 := by have h1 := ho2.1; have h2 := seenN_len nd nx fl; have h3 := HFV.out.1; omega
  clear ho2 hb2 HXV HSV HFV HBV
  obtain ⟨L, hL⟩ : ∃ L, L = seenN nd nx fl := ⟨_, rfl⟩
  rw [← hL] at HL2
  have HIN : Hid (∀ k, k < ll → hasB nx (L.getD k 0) = true) := Lib.hid (fun k hk => hasB_of (seenN_in (nd := nd) (fl := fl) (by rw [← hL]; exact getD_mem (by rw [HL2.out.1]; exact hk))))
  have HASC : Hid (∀ j k, j < k → k < ll → L.getD j 0 < L.getD k 0) := Lib.hid (fun j k hj hk => by rw [hL]; exact seenN_asc hj (by rw [← hL, HL2.out.1]; exact hk))
  have HALL : Hid (∀ k, k < lf → 0 ≤ nextV nd nx (fl.getD k 0) → hasB L (nextV nd nx (fl.getD k 0)) = true) := Lib.hid (fun k hk h => hasB_of (by rw [hL]; exact seenN_all (getD_mem (by rw [HF2.out.1]; exact hk)) h))
  clear hL
  have HFL := Lib.hid HF2.out.1
  have hX2 := HX2.out.lt
  go_wp2_with fail
  go_loopw [6] (fun s wr => ∃ i : Nat, i ≤ ll ∧ s = .int .i64 i ∧ Below w2.heap.size w2 wr) (fun s _ => ll - (intOf s).toNat)
  case atStart => exact ⟨0, Nat.zero_le _, rfl, Below.refl _ _⟩
  case round =>
    obtain ⟨i, hi, rfl, hb⟩ := hrel
    obtain ⟨U, rfl⟩ : ∃ U, U = wr := ⟨_, rfl⟩
    have HBU := Lib.hid hb
    have HXU := Lib.hid (HX2.out.below hb)
    by_cases hlt : i < ll
    · rcases HL2.out.2.2 with h0 | ⟨b, o, rfl, hb0, hcs⟩
      · omega
      have hx := (hb.cell (p := ⟨b, o + i, none⟩) hb0).trans (hcs i hlt)
      obtain ⟨x, hxe⟩ : ∃ x, x = L.getD i 0 := ⟨_, rfl⟩
      have HH := Lib.hid (HIN.out i hlt)
      rw [← hxe] at hx HH
      have c0 := HXU.out.c0
      have c1 := HXU.out.c1
      have HSD := Lib.hid ((HS2.out.below hb).below (Below.refl _ _).drew)
      have HBD := Lib.hid (below_up (B := w2.heap.size) hb (Below.refl U.heap.size U).drew (Nat.le_refl _))
      have i0 : (0 : Int) ≤ (i : Int) := by omega
      have i1 : (i : Int) < (ll : Int) := by omega
      by_cases hi0 : i = 0
      · subst hi0
        have hS : (U.cell? ⟨g, 0, none⟩ = some (.int .i64 nd) ∧ U.cell? ⟨g, 1, none⟩ = some (.slice a len cap)) ∧ U.cell? ⟨b, o, none⟩ = some (.int .i64 x) := ⟨⟨c0, c1⟩, by rw [Nat.add_zero] at hx; exact hx⟩
        have HSS := Lib.hid hS
        clear hcs hb hxe hS
        go_wp2_with fail
        refine wp_region_noPanic ?_
        refine wp_region_held_drew (S := (fun w' => (w'.cell? ⟨g, 0, none⟩ = some (.int .i64 nd) ∧ w'.cell? ⟨g, 1, none⟩ = some (.slice a len cap)) ∧ w'.cell? ⟨b, o, none⟩ = some (.int .i64 x))) (by kernel_rfl) ?_ (fun hHeld => ?_)
        · rw [World.cell?_drew, World.cell?_drew, World.cell?_drew]; exact HSS.out
        refine take_val 0 (some 31) (.pointer (some ⟨g, 1, none⟩)) (by kernel_rfl) (by kernel_rfl) (by kernel_rfl) (fun _ _ _ h => h) ⟨_, rfl, rfl, by rfl, fun w hSw => by go_simp⟩ (by assumption) ?_
        try simp only [Act.put, List.setIfInBounds_toArray, List.set_cons_zero, List.set_cons_succ]
        refine take_val 1 (some 32) (.slice a len cap) (by kernel_rfl) (by kernel_rfl) (by kernel_rfl) (fun _ _ _ h => h) ⟨_, rfl, rfl, by rfl, fun w hSw => by go_simp⟩ (by assumption) ?_
        try simp only [Act.put, List.setIfInBounds_toArray, List.set_cons_zero, List.set_cons_succ]
        refine take_val 2 (some 33) (.slice (some ⟨b, o, none⟩) ll cl) (by kernel_rfl) (by kernel_rfl) (by kernel_rfl) (fun _ _ _ h => h) ⟨_, rfl, rfl, by rfl, fun w hSw => by go_simp⟩ (by assumption) ?_
        try simp only [Act.put, List.setIfInBounds_toArray, List.set_cons_zero, List.set_cons_succ]
        refine take_val 3 (some 34) (.int .i64 0) (by kernel_rfl) (by kernel_rfl) (by kernel_rfl) (fun _ _ _ h => h) ⟨_, rfl, rfl, by rfl, fun w hSw => by go_simp⟩ (by assumption) ?_
        try simp only [Act.put, List.setIfInBounds_toArray, List.set_cons_zero, List.set_cons_succ]
        refine take_val 4 (some 35) (.pointer (some ⟨b, o, none⟩)) (by kernel_rfl) (by kernel_rfl) (by kernel_rfl) (fun _ _ _ h => h) ⟨_, rfl, rfl, by rfl, fun w hSw => by go_simp⟩ (by assumption) ?_
        try simp only [Act.put, List.setIfInBounds_toArray, List.set_cons_zero, List.set_cons_succ]
        refine take_val 5 (some 36) (.int .i64 x) (by kernel_rfl) (by kernel_rfl) (by kernel_rfl) (fun _ _ _ h => h) ⟨_, rfl, rfl, by rfl, fun w hSw => by go_simp⟩ (by assumption) ?_
        try simp only [Act.put, List.setIfInBounds_toArray, List.set_cons_zero, List.set_cons_succ]
        refine wpAnyH_ready (rs := [6]) (by kernel_rfl) (by simp) ?_
        refine AllReadyH.cons rfl (fun K hK => ?_) AllReadyH.nil
        go_simp
        go_at_call 15
        refine (contains_any _ a len cap nx x (by omega) HSD.out).mono ?_
        rw [HH.out]
        rintro e z2 ⟨rfl, rfl⟩
        clear hHeld
        refine hK.out _ _ (by rw [World.cell?_drew, World.cell?_drew, World.cell?_drew]; exact HSS.out) (fun hHeld => ?_)
        clear hK K
        try simp only [Act.put, List.setIfInBounds_toArray, List.set_cons_zero, List.set_cons_succ]
        refine take_val 7 (some 38) (.bool false) (by kernel_rfl) (by kernel_rfl) (by kernel_rfl) (fun _ _ _ h => h) ⟨_, rfl, rfl, by rfl, fun w hSw => by go_simp⟩ (by assumption) ?_
        try simp only [Act.put, List.setIfInBounds_toArray, List.set_cons_zero, List.set_cons_succ]
        refine take_val 8 (some 39) (.bool false) (by kernel_rfl) (by kernel_rfl) (by kernel_rfl) (fun _ _ _ h => h) ⟨_, rfl, rfl, by rfl, fun w hSw => by go_simp⟩ (by assumption) ?_
        try simp only [Act.put, List.setIfInBounds_toArray, List.set_cons_zero, List.set_cons_succ]
        refine take_val 9 (some 40) (.int .i64 0) (by kernel_rfl) (by kernel_rfl) (by kernel_rfl) (fun _ _ _ h => h) ⟨_, rfl, rfl, by rfl, fun w hSw => by go_simp⟩ (by assumption) ?_
        try simp only [Act.put, List.setIfInBounds_toArray, List.set_cons_zero, List.set_cons_succ]
        refine take_val 10 (some 41) (.bool false) (by kernel_rfl) (by kernel_rfl) (by kernel_rfl) (fun _ _ _ h => h) ⟨_, rfl, rfl, by rfl, fun w hSw => by go_simp⟩ (by assumption) ?_
        try simp only [Act.put, List.setIfInBounds_toArray, List.set_cons_zero, List.set_cons_succ]
        refine take_val 11 (some 42) (.bool false) (by kernel_rfl) (by kernel_rfl) (by kernel_rfl) (fun _ _ _ h => h) ⟨_, rfl, rfl, by rfl, fun w hSw => by go_simp⟩ (by assumption) ?_
        try simp only [Act.put, List.setIfInBounds_toArray, List.set_cons_zero, List.set_cons_succ]
        refine take_un 12 (some 43) (by kernel_rfl) (by kernel_rfl) (by kernel_rfl) (fun _ _ _ h => h) ⟨_, rfl, rfl, by rfl⟩ (by assumption) ?_
        try simp only [Act.put, List.setIfInBounds_toArray, List.set_cons_zero, List.set_cons_succ]
        refine take_un 13 (some 44) (by kernel_rfl) (by kernel_rfl) (by kernel_rfl) (fun _ _ _ h => h) ⟨_, rfl, rfl, by rfl⟩ (by assumption) ?_
        try simp only [Act.put, List.setIfInBounds_toArray, List.set_cons_zero, List.set_cons_succ]
        refine take_un 14 (some 45) (by kernel_rfl) (by kernel_rfl) (by kernel_rfl) (fun _ _ _ h => h) ⟨_, rfl, rfl, by rfl⟩ (by assumption) ?_
        try simp only [Act.put, List.setIfInBounds_toArray, List.set_cons_zero, List.set_cons_succ]
        refine take_un 15 (some 46) (by kernel_rfl) (by kernel_rfl) (by kernel_rfl) (fun _ _ _ h => h) ⟨_, rfl, rfl, by rfl⟩ (by assumption) ?_
        try simp only [Act.put, List.setIfInBounds_toArray, List.set_cons_zero, List.set_cons_succ]
        refine take_un 16 (some 47) (by kernel_rfl) (by kernel_rfl) (by kernel_rfl) (fun _ _ _ h => h) ⟨_, rfl, rfl, by rfl⟩ (by assumption) ?_
        try simp only [Act.put, List.setIfInBounds_toArray, List.set_cons_zero, List.set_cons_succ]
        refine take_un 17 (some 48) (by kernel_rfl) (by kernel_rfl) (by kernel_rfl) (fun _ _ _ h => h) ⟨_, rfl, rfl, by rfl⟩ (by assumption) ?_
        try simp only [Act.put, List.setIfInBounds_toArray, List.set_cons_zero, List.set_cons_succ]
        refine take_un 18 (some 49) (by kernel_rfl) (by kernel_rfl) (by kernel_rfl) (fun _ _ _ h => h) ⟨_, rfl, rfl, by rfl⟩ (by assumption) ?_
        try simp only [Act.put, List.setIfInBounds_toArray, List.set_cons_zero, List.set_cons_succ]
        refine take_un 19 (some 50) (by kernel_rfl) (by kernel_rfl) (by kernel_rfl) (fun _ _ _ h => h) ⟨_, rfl, rfl, by rfl⟩ (by assumption) ?_
        try simp only [Act.put, List.setIfInBounds_toArray, List.set_cons_zero, List.set_cons_succ]
        refine take_un 20 (some 51) (by kernel_rfl) (by kernel_rfl) (by kernel_rfl) (fun _ _ _ h => h) ⟨_, rfl, rfl, by rfl⟩ (by assumption) ?_
        try simp only [Act.put, List.setIfInBounds_toArray, List.set_cons_zero, List.set_cons_succ]
        refine take_un 21 (some 52) (by kernel_rfl) (by kernel_rfl) (by kernel_rfl) (fun _ _ _ h => h) ⟨_, rfl, rfl, by rfl⟩ (by assumption) ?_
        try simp only [Act.put, List.setIfInBounds_toArray, List.set_cons_zero, List.set_cons_succ]
        refine take_val 22 (some 53) (.bool false) (by kernel_rfl) (by kernel_rfl) (by kernel_rfl) (fun _ _ _ h => h) ⟨_, rfl, rfl, by rfl, fun w hSw => by go_simp⟩ (by assumption) ?_
        try simp only [Act.put, List.setIfInBounds_toArray, List.set_cons_zero, List.set_cons_succ]
        refine take_val 23 (some 54) (.bool false) (by kernel_rfl) (by kernel_rfl) (by kernel_rfl) (fun _ _ _ h => h) ⟨_, rfl, rfl, by rfl, fun w hSw => by go_simp⟩ (by assumption) ?_
        try simp only [Act.put, List.setIfInBounds_toArray, List.set_cons_zero, List.set_cons_succ]
        refine wpAnyH_done (by kernel_rfl) ?_ _
        refine NoPanic.normal ?_
        go_wp2
        go_roundw
        case rel => exact ⟨1, hlt, by go_num, HBD.out⟩
        case measure => simp [intOf]; omega
      · obtain ⟨j, hj⟩ : ∃ j : Nat, i = j + 1 := ⟨i - 1, by omega⟩
        have hy := (hb.cell (p := ⟨b, o + j, none⟩) hb0).trans (hcs j (by omega))
        obtain ⟨y, hye⟩ : ∃ y, y = L.getD j 0 := ⟨_, rfl⟩
        have hyx := HASC.out j i (by omega) hlt
        rw [← hye, ← hxe] at hyx
        rw [← hye] at hy
        have wj : IntKind.i64.wrap ((i : Int) - 1) = (j : Int) := (IntWalk.i64_in _ (by omega)).trans (by omega)
        have hip : 0 < i := by omega
        have hipi : (0 : Int) < (i : Int) := by omega
        have j0 : (0 : Int) ≤ (j : Int) := by omega
        have j1 : (j : Int) < (ll : Int) := by omega
        have hnle : ¬ x ≤ y := by omega
        clear hcs hb hxe hye hj
        go_wp2_with fail
        go_region_held3 (fun w' => (w'.cell? ⟨g, 0, none⟩ = some (.int .i64 nd) ∧ w'.cell? ⟨g, 1, none⟩ = some (.slice a len cap)) ∧ w'.cell? ⟨b, o + i, none⟩ = some (.int .i64 x) ∧ w'.cell? ⟨b, o + j, none⟩ = some (.int .i64 y)) (go_keep) (first
          | (go_at_call 15; refine (contains_any _ a len cap nx x (by omega) HSD.out).mono ?_; rw [HH.out]; rintro e w' ⟨rfl, rfl⟩))
        go_wp2
        go_roundw
        case rel => exact ⟨i + 1, hlt, by go_num, HBD.out⟩
        case measure => simp [intOf]; omega
    · obtain rfl : i = ll := by omega
      clear hb
      go_wp2_with fail
      go_loopw [7, 8] (fun s _ wr => ∃ k : Nat, k ≤ lf ∧ s = .int .i64 k ∧ Below w2.heap.size w2 wr) (fun s _ _ => lf - (intOf s).toNat)
      case atStart => exact ⟨0, Nat.zero_le _, rfl, HBU.out⟩
      case round =>
        clear HBU HXU
        obtain ⟨k, hk, rfl, hb⟩ := hrel
        obtain ⟨U, rfl⟩ : ∃ U, U = wr := ⟨_, rfl⟩
        have HBU := Lib.hid hb
        have HXU := Lib.hid (HX2.out.below hb)
        by_cases hlt2 : k < lf
        · rcases HF2.out.2.2 with h0 | ⟨b, o, rfl, hb0, hcs⟩
          · omega
          have hx0 := hcs k hlt2
          have hx := (hb.cell (p := ⟨b, o + k, none⟩) hb0).trans hx0
          obtain ⟨f, hfe⟩ : ∃ f, f = fl.getD k 0 := ⟨_, rfl⟩
          have HFW : Hid ((Lit.int .i64 f).wf = true) := Lib.hid (by rw [hfe]; exact HF2.out.2.1 _ (getD_mem (by rw [HFL.out]; exact hlt2)))
          obtain ⟨x, hxe⟩ : ∃ x, x = nextV nd nx f := ⟨_, rfl⟩
          have HXE := Lib.hid hxe
          have HA : Hid (0 ≤ x → hasB L x = true) := Lib.hid (fun h => by have h2 := HALL.out k hlt2; rw [← hfe, ← hxe] at h2; exact h2 h)
          rw [← hfe] at hx
          have c0 := HXU.out.c0
          have c1 := HXU.out.c1
          have C0 := Lib.hid c0
          have C1 := Lib.hid c1
          have CX := Lib.hid hx
          have hgU := HXU.out.lt
          have hbU : b < U.heap.size := Nat.lt_of_lt_of_le hb0 hb.size
          have HSD := Lib.hid ((HS2.out.below hb).below (Below.refl _ _).drew)
          have HBD := Lib.hid (below_up (B := w2.heap.size) hb (Below.refl U.heap.size U).drew (Nat.le_refl _))
          have i0 : (0 : Int) ≤ (k : Int) := by omega
          have i1 : (k : Int) < (lf : Int) := by omega
          clear hcs hx0 hb hfe hxe
          go_wp2_with fail
          go_region_held3 (fun w' => (w'.cell? ⟨g, 0, none⟩ = some (.int .i64 nd) ∧ w'.cell? ⟨g, 1, none⟩ = some (.slice a len cap)) ∧ w'.cell? ⟨b, o + k, none⟩ = some (.int .i64 f)) (go_keep) (first
            | (go_at_call 16; refine (nextP_any _ nd a len cap nx f hlen hlc HSD.out HNW.out HFW.out).mono ?_; rw [← HXE.out]; rintro e w5 ⟨rfl, hb3⟩; have G3 := Lib.hid (below_up (B := U.heap.size) (Below.refl U.heap.size U).drew hb3 (Nat.le_refl _)); have HB5 := Lib.hid (below_up (B := w2.heap.size) HBD.out hb3 (Nat.le_refl _)); have c0 := (G3.out.cell (p := ⟨g, 0, none⟩) hgU).trans C0.out; have c1 := (G3.out.cell (p := ⟨g, 1, none⟩) hgU).trans C1.out; have hx := (G3.out.cell (p := ⟨b, o + k, none⟩) hbU).trans CX.out; clear hb3))
          by_cases hx0 : 0 ≤ x
          · have HAX := Lib.hid (HA.out hx0)
            go_wp2_with (go_at_call 15; refine (contains_any _ al _ cl L x (by omega) (HL2.out.below HB5.out)).mono ?_; rw [HAX.out]; rintro e w' ⟨rfl, rfl⟩)
            go_roundw
            case rel => exact ⟨k + 1, hlt2, by go_num, HB5.out⟩
            case measure => simp [intOf]; omega
          · go_wp2
            go_roundw
            case rel => exact ⟨k + 1, hlt2, by go_num, HB5.out⟩
            case measure => simp [intOf]; omega
        · obtain rfl : k = lf := by omega
          have HB3 := Lib.hid (HB2.out.trans (HBU.out.mono HB2.out.size))
          clear hb
          go_wp2_with fail
          go_at_call 17
          refine (drawTr_any _ a0 len0 cap0 hl ((HC.out.below HB3.out).mono HB3.out.size)).mono ?_
          rintro e w6 ⟨n, p, hnw, hpw, hp0, hp1, rfl, hb6⟩
          have HB6 := Lib.hid (below_up HB3.out hb6 (Nat.le_refl _))
          clear hb6
          obtain ⟨t, ht⟩ : ∃ t, t = triesV n p := ⟨_, rfl⟩
          have HT := Lib.hid ht
          go_wp2_with fail
          go_at_call 18
          refine (triesP_any n p _).mono ?_
          rw [← HT.out]
          rintro e w7 ⟨rfl, hb7⟩
          have HB7 := Lib.hid (below_up HB6.out hb7 (Nat.le_refl _))
          have htb : -1 ≤ t ∧ t ≤ 20 := by
            rw [ht]
            rcases tries_facts n p with h | ⟨T, h1, h2, _⟩
            · rw [h]; omega
            · rw [h1]; omega
          obtain ⟨ht0, ht1⟩ := htb
          have HTF : Hid (∀ k : Nat, ((k : Int) < t → hitAt n p k = false) ∧ ((k : Int) = t → hitAt n p k = true)) := Lib.hid (fun k => by
            rw [ht]
            rcases tries_facts n p with h | ⟨T, h1, h2, h3, h4⟩
            · rw [h]; exact ⟨fun h => by omega, fun h => by omega⟩
            · rw [h1]; exact ⟨fun h => h3 k (by omega), fun h => by rw [show k = T by omega]; exact h4⟩)
          clear hb7 ht
          go_wp2_with fail
          go_loopw [12, 13, 14, 95] (fun s _ _ _ wr => ∃ k : Nat, k ≤ 21 ∧ s = .int .i64 k ∧ Below w7.heap.size w7 wr) (fun s _ _ _ _ => 21 - (intOf s).toNat)
          case atStart => exact ⟨0, by omega, rfl, Below.refl _ _⟩
          case round =>
            obtain ⟨k2, hk2, rfl, hb⟩ := hrel
            have HB8 := Lib.hid (HB7.out.trans (hb.mono HB7.out.size))
            have HB8r := Lib.hid hb
            clear hb
            by_cases h1 : k2 < 21
            · have h1i : (k2 : Int) ≤ 20 := by omega
              by_cases h2 : 1 ≤ n
              · by_cases h3 : n ≤ 4
                · have hbd := pab_bd h2 h3 k2 h1
                  have hmk := miss_yes (n := n) (k := k2) (by unfold missOk; rw [inR_true.2 ⟨h2, h3⟩, inR_true.2 (by omega)]; rfl)
                  obtain ⟨hf0, hf1⟩ := HTF.out k2
                  unfold hitAt at hf0 hf1
                  obtain ⟨x, hx⟩ : ∃ x, x = pa n k2 := ⟨_, rfl⟩
                  obtain ⟨y, hy⟩ : ∃ y, y = pb n k2 := ⟨_, rfl⟩
                  rw [← hx, ← hy] at hbd hmk hf0 hf1
                  have HMK := Lib.hid hmk
                  obtain ⟨hx0, hx1, hy0, hy1⟩ := hbd
                  have hpy0 : -1 * y ≤ p * y := Int.mul_le_mul_of_nonneg_right hp0 (by omega)
                  have hpy1 : p * y ≤ 101 * y := Int.mul_le_mul_of_nonneg_right hp1 (by omega)
                  have wx : IntKind.i64.wrap (100 * x) = 100 * x := IntWalk.i64_in _ (by omega)
                  have wy : IntKind.i64.wrap (p * y) = p * y := IntWalk.i64_in _ (by omega)
                  have ny : ¬ y ≤ 0 := by omega
                  have nx0 : ¬ x < 0 := by omega
                  simp only [decide_eq_false_iff_not, decide_eq_true_eq] at hf0 hf1
                  have HF0 := Lib.hid hf0
                  have HF1' := Lib.hid hf1
                  clear hx hy hmk hpy0 hpy1 hx0 hx1 hy0 hy1 hf0 hf1
                  by_cases h4 : (k2 : Int) < t
                  · have h5 := HF0.out h4
                    have h6 : ¬ (k2 : Int) = t := by omega
                    go_wp2_with (go_at_call 19; refine (missP_any n (k2 : Int) _).mono ?_; rw [HMK.out.1, HMK.out.2]; rintro e w9 ⟨rfl, hb9⟩; have HB9 := Lib.hid (below_up (B := w7.heap.size) HB8r.out hb9 (Nat.le_refl _)); clear hb9)
                    go_roundw
                    case rel => exact ⟨k2 + 1, h1, by go_num, HB9.out⟩
                    case measure => simp [intOf]; omega
                  · by_cases h6 : (k2 : Int) = t
                    · have h5 := HF1'.out h6
                      have h7 : ¬ p * y < 100 * x := by omega
                      subst h6
                      go_wp2_with (go_at_call 19; refine (missP_any n (k2 : Int) _).mono ?_; rw [HMK.out.1, HMK.out.2]; rintro e w9 ⟨rfl, hb9⟩; have HB9 := Lib.hid (below_up (B := w7.heap.size) HB8r.out hb9 (Nat.le_refl _)); clear hb9)
                      go_roundw
                      case rel => exact ⟨k2 + 1, h1, by go_num, HB9.out⟩
                      case measure => simp [intOf]; omega
                    · have h6b : ((k2 : Int) == t) = false := by rw [beq_eq_false_iff_ne]; exact h6
                      go_wp2_with (go_at_call 19; refine (missP_any n (k2 : Int) _).mono ?_; rw [HMK.out.1, HMK.out.2]; rintro e w9 ⟨rfl, hb9⟩; have HB9 := Lib.hid (below_up (B := w7.heap.size) HB8r.out hb9 (Nat.le_refl _)); clear hb9)
                      go_roundw
                      case rel => exact ⟨k2 + 1, h1, by go_num, HB9.out⟩
                      case measure => simp [intOf]; omega
                · go_wp2
                  go_ret
                  exact ⟨ret_bool (by simp), HB8.out⟩
              · go_wp2
                go_ret
                exact ⟨ret_bool (by simp), HB8.out⟩
            · have h1i : ¬ (k2 : Int) ≤ 20 := by omega
              go_wp2
              go_ret
              exact ⟨ret_bool (by simp), HB8.out⟩
theorem lawBranches_walk (a : Option Addr) (len cap : Nat) (z : List Int) (W : World) (w0 : IsRow .u8 W a len cap z) : Calls Try.prog 3 #[.slice a len cap] W fun e W' => e = .returned (.bool true) ∧ Below W.heap.size W W' := by
  by_cases hl : len ≤ 1048576
  · exact branch_small W a len cap hl (code_of w0)
  · clear w0
    go_enter Try.func3, Try.ntmps3
    go_wp2_with (go_at_call 12; refine (big_yes _ a len cap hl).mono ?_; rintro e w0 ⟨rfl, rfl⟩)
    go_ret
    exact ⟨rfl, Below.refl _ _⟩
end Go.Proofs.Ytgninjdnfidpcaa
