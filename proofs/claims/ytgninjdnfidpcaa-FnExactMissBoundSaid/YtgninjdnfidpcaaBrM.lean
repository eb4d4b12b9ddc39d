/- IsBranch and NextFor, the model's. -/
import Derived.Test.YtgninjdnfidpcaaBrF
import Derived.Test.YtgninjdnfidpcaaTake
namespace Go.Proofs.Ytgninjdnfidpcaa
open Go.RowKit
theorem sees_take {w : World} {b o len : Nat} {zs : List Int} (h : Sees .i64 w (some ⟨b, o, none⟩) len zs) {k : Nat} (hk : k ≤ len) : Sees .i64 w (some ⟨b, o, none⟩) k (zs.take k) := by
  obtain ⟨h1, h2, h3⟩ := h
  refine ⟨by rw [List.length_take]; omega, fun n hn => h2 n (List.mem_of_mem_take hn), ?_⟩
  rcases h3 with h0 | ⟨b', o', ha, hb, hc⟩
  · exact .inl (by omega)
  · cases ha
    refine .inr ⟨b, o, rfl, hb, fun j hj => ?_⟩
    rw [hc j (by omega)]
    simp [List.getD, hj]
theorem next_allB {P : Nat → Prop} {k : Nat} (h : ∀ j, j < k → P j) (h1 : P k) : ∀ j, j < k + 1 → P j := fun j hj => by
  rcases Nat.lt_or_eq_of_le (Nat.lt_succ_iff.1 hj) with h2 | h2
  · exact h j h2
  · rw [h2]; exact h1
set_option maxRecDepth 20000 in
set_option maxHeartbeats 6400000 in
theorem specBr_any (W : World) (nd : Int) (a : Option Addr) (len cap : Nat) (nx : List Int) (hl : len ≤ 1073741824) (hlc : len ≤ cap) (hs : Sees .i64 W a len nx) :
    Calls Try.prog 21 #[.agg #[.int .i64 nd, .slice a len cap]] W fun e w' => e = .returned (.bool (brOk nd nx)) ∧ Below W.heap.size W w' := by
  have HL := Lib.hid hs.1
  obtain ⟨V, hV⟩ : ∃ V, V = W.alloc (.cells #[.int .i64 nd, .slice a len cap] 26) := ⟨_, rfl⟩
  have HBV : Hid (Below W.heap.size W V) := Lib.hid (by rw [hV]; exact below_newB _ _)
  have HN := Lib.hid (show BrAt V W.heap.size nd a len cap by rw [hV]; exact br_new _ _ _ _ _ _)
  have HS := Lib.hid (hs.below HBV.out)
  clear hs
  obtain ⟨v, hv⟩ : ∃ v : Bool, v = brOk nd nx := ⟨_, rfl⟩
  rw [← hv]
  have HV := Lib.hid hv
  clear hv
  go_enter Try.func21, Try.ntmps21
  go_wp2_with fail
  rw [← hV]
  clear hV
  go_wp2_with fail
  go_loopw [3] (fun s wr => ∃ i : Nat, i ≤ len ∧ s = .int .i64 i ∧ Hid (∀ j, j < i → brAt nx j = true) ∧ Below V.heap.size V wr) (fun s _ => len - (intOf s).toNat)
  case atStart => exact ⟨0, Nat.zero_le _, rfl, Lib.hid (fun j hj => absurd hj (Nat.not_lt_zero _)), Below.refl _ _⟩
  case round =>
    obtain ⟨i, hi, rfl, HR, hb⟩ := hrel
    obtain ⟨U, rfl⟩ : ∃ U, U = wr := ⟨_, rfl⟩
    have HBU := Lib.hid hb
    have HNU := Lib.hid (HN.out.below hb)
    have c0 := HNU.out.c0
    have c1 := HNU.out.c1
    by_cases hlt : i < len
    · have hix : i < nx.length := by rw [HL.out]; exact hlt
      have HSU := Lib.hid (HS.out.below hb)
      rcases HSU.out.2.2 with h0 | ⟨b, o, rfl, hb0, hc⟩
      · omega
      have cx := hc i hlt
      obtain ⟨x, hx⟩ : ∃ x, x = nx.getD i 0 := ⟨_, rfl⟩
      rw [← hx] at cx
      have HX := Lib.hid hx
      have i0 : (0 : Int) ≤ (i : Int) := by omega
      have i1 : (i : Int) < (len : Int) := by omega
      have i2 : (i : Int) ≤ (cap : Int) := by omega
      have i3 : (i : Int) ≤ (len : Int) := by omega
      have i4 : (len : Int) ≤ (cap : Int) := by omega
      have HAT : Hid (brAt nx i = (inR x 0 7 && !hasB (nx.take i) x)) := Lib.hid (by unfold brAt; rw [hx])
      have HTK := Lib.hid ((sees_take HSU.out hi).below (Below.refl _ _).drew)
      have hS : (U.cell? ⟨W.heap.size, 0, none⟩ = some (.int .i64 nd) ∧ U.cell? ⟨W.heap.size, 1, none⟩ = some (.slice (some ⟨b, o, none⟩) len cap)) ∧ U.cell? ⟨b, o + i, none⟩ = some (.int .i64 x) := ⟨⟨c0, c1⟩, cx⟩
      have HSS := Lib.hid hS
      have HBD := Lib.hid (below_up (B := V.heap.size) hb (Below.refl U.heap.size U).drew (Nat.le_refl _))
      clear hc hx hS
      cases h1 : inR x 0 7
      · have H1 := Lib.hid h1
        have HE : Hid (v = false) := Lib.hid (by rw [HV.out]; exact brOk_no hix (by rw [HAT.out, h1]; rfl))
        clear h1 hb
        go_wp2_with fail
        refine wp_region_noPanic ?_
        refine wp_region_held_drew (S := (fun w' => (w'.cell? ⟨W.heap.size, 0, none⟩ = some (.int .i64 nd) ∧ w'.cell? ⟨W.heap.size, 1, none⟩ = some (.slice (some ⟨b, o, none⟩) len cap)) ∧ w'.cell? ⟨b, o + i, none⟩ = some (.int .i64 x))) (by kernel_rfl) ?_ (fun hHeld => ?_)
        · rw [World.cell?_drew, World.cell?_drew, World.cell?_drew]; exact HSS.out
        refine take_val 0 (some 11) (.pointer (some ⟨W.heap.size, 1, none⟩)) (by kernel_rfl) (by kernel_rfl) (by kernel_rfl) (fun _ _ _ h => h) ⟨_, rfl, rfl, by rfl, fun w hSw => by go_simp⟩ (by assumption) ?_
        try simp only [Act.put, List.setIfInBounds_toArray, List.set_cons_zero, List.set_cons_succ]
        refine take_val 1 (some 12) (.slice (some ⟨b, o, none⟩) len cap) (by kernel_rfl) (by kernel_rfl) (by kernel_rfl) (fun _ _ _ h => h) ⟨_, rfl, rfl, by rfl, fun w hSw => by go_simp⟩ (by assumption) ?_
        try simp only [Act.put, List.setIfInBounds_toArray, List.set_cons_zero, List.set_cons_succ]
        refine take_val 2 (some 13) (.int .i64 i) (by kernel_rfl) (by kernel_rfl) (by kernel_rfl) (fun _ _ _ h => h) ⟨_, rfl, rfl, by rfl, fun w hSw => by go_simp⟩ (by assumption) ?_
        try simp only [Act.put, List.setIfInBounds_toArray, List.set_cons_zero, List.set_cons_succ]
        refine take_val 3 (some 14) (.pointer (some ⟨b, o + i, none⟩)) (by kernel_rfl) (by kernel_rfl) (by kernel_rfl) (fun _ _ _ h => h) ⟨_, rfl, rfl, by rfl, fun w hSw => by go_simp⟩ (by assumption) ?_
        try simp only [Act.put, List.setIfInBounds_toArray, List.set_cons_zero, List.set_cons_succ]
        refine take_val 4 (some 15) (.int .i64 x) (by kernel_rfl) (by kernel_rfl) (by kernel_rfl) (fun _ _ _ h => h) ⟨_, rfl, rfl, by rfl, fun w hSw => by go_simp⟩ (by assumption) ?_
        try simp only [Act.put, List.setIfInBounds_toArray, List.set_cons_zero, List.set_cons_succ]
        refine wpAnyH_ready (rs := [5]) (by kernel_rfl) (by simp) ?_
        refine AllReadyH.cons rfl (fun K hK => ?_) AllReadyH.nil
        go_simp
        go_at_call 61
        refine (l1In_any _ _ _ _).mono ?_
        rw [H1.out]
        rintro e z2 ⟨rfl, rfl⟩
        clear hHeld
        refine hK.out _ _ (by rw [World.cell?_drew, World.cell?_drew, World.cell?_drew]; exact HSS.out) (fun hHeld => ?_)
        clear hK K
        try simp only [Act.put, List.setIfInBounds_toArray, List.set_cons_zero, List.set_cons_succ]
        refine take_val 6 (some 17) (.bool true) (by kernel_rfl) (by kernel_rfl) (by kernel_rfl) (fun _ _ _ h => h) ⟨_, rfl, rfl, by rfl, fun w hSw => by go_simp⟩ (by assumption) ?_
        try simp only [Act.put, List.setIfInBounds_toArray, List.set_cons_zero, List.set_cons_succ]
        refine take_val 7 (some 18) (.bool true) (by kernel_rfl) (by kernel_rfl) (by kernel_rfl) (fun _ _ _ h => h) ⟨_, rfl, rfl, by rfl, fun w hSw => by go_simp⟩ (by assumption) ?_
        try simp only [Act.put, List.setIfInBounds_toArray, List.set_cons_zero, List.set_cons_succ]
        refine take_un 8 (some 19) (by kernel_rfl) (by kernel_rfl) (by kernel_rfl) (fun _ _ _ h => h) ⟨_, rfl, rfl, by rfl⟩ (by assumption) ?_
        try simp only [Act.put, List.setIfInBounds_toArray, List.set_cons_zero, List.set_cons_succ]
        refine take_un 9 (some 20) (by kernel_rfl) (by kernel_rfl) (by kernel_rfl) (fun _ _ _ h => h) ⟨_, rfl, rfl, by rfl⟩ (by assumption) ?_
        try simp only [Act.put, List.setIfInBounds_toArray, List.set_cons_zero, List.set_cons_succ]
        refine take_un 10 (some 21) (by kernel_rfl) (by kernel_rfl) (by kernel_rfl) (fun _ _ _ h => h) ⟨_, rfl, rfl, by rfl⟩ (by assumption) ?_
        try simp only [Act.put, List.setIfInBounds_toArray, List.set_cons_zero, List.set_cons_succ]
        refine take_un 11 (some 22) (by kernel_rfl) (by kernel_rfl) (by kernel_rfl) (fun _ _ _ h => h) ⟨_, rfl, rfl, by rfl⟩ (by assumption) ?_
        try simp only [Act.put, List.setIfInBounds_toArray, List.set_cons_zero, List.set_cons_succ]
        refine take_un 12 (some 23) (by kernel_rfl) (by kernel_rfl) (by kernel_rfl) (fun _ _ _ h => h) ⟨_, rfl, rfl, by rfl⟩ (by assumption) ?_
        try simp only [Act.put, List.setIfInBounds_toArray, List.set_cons_zero, List.set_cons_succ]
        refine take_un 13 (some 24) (by kernel_rfl) (by kernel_rfl) (by kernel_rfl) (fun _ _ _ h => h) ⟨_, rfl, rfl, by rfl⟩ (by assumption) ?_
        try simp only [Act.put, List.setIfInBounds_toArray, List.set_cons_zero, List.set_cons_succ]
        refine take_un 14 (some 25) (by kernel_rfl) (by kernel_rfl) (by kernel_rfl) (fun _ _ _ h => h) ⟨_, rfl, rfl, by rfl⟩ (by assumption) ?_
        try simp only [Act.put, List.setIfInBounds_toArray, List.set_cons_zero, List.set_cons_succ]
        refine take_un 15 (some 26) (by kernel_rfl) (by kernel_rfl) (by kernel_rfl) (fun _ _ _ h => h) ⟨_, rfl, rfl, by rfl⟩ (by assumption) ?_
        try simp only [Act.put, List.setIfInBounds_toArray, List.set_cons_zero, List.set_cons_succ]
        refine take_un 16 (some 27) (by kernel_rfl) (by kernel_rfl) (by kernel_rfl) (fun _ _ _ h => h) ⟨_, rfl, rfl, by rfl⟩ (by assumption) ?_
        try simp only [Act.put, List.setIfInBounds_toArray, List.set_cons_zero, List.set_cons_succ]
        refine take_un 17 (some 28) (by kernel_rfl) (by kernel_rfl) (by kernel_rfl) (fun _ _ _ h => h) ⟨_, rfl, rfl, by rfl⟩ (by assumption) ?_
        try simp only [Act.put, List.setIfInBounds_toArray, List.set_cons_zero, List.set_cons_succ]
        refine take_val 18 (some 29) (.bool true) (by kernel_rfl) (by kernel_rfl) (by kernel_rfl) (fun _ _ _ h => h) ⟨_, rfl, rfl, by rfl, fun w hSw => by go_simp⟩ (by assumption) ?_
        try simp only [Act.put, List.setIfInBounds_toArray, List.set_cons_zero, List.set_cons_succ]
        refine wpAnyH_done (by kernel_rfl) ?_ _
        refine NoPanic.normal ?_
        go_wp2
        go_ret
        exact ⟨ret_bool HE.out.symm, HBV.out.trans (HBD.out.mono HBV.out.size)⟩
      · have H1 := Lib.hid h1
        obtain ⟨m, hm⟩ : ∃ m, m = hasB (nx.take i) x := ⟨_, rfl⟩
        have HM := Lib.hid hm
        have hAT : brAt nx i = !m := by rw [HAT.out, h1, ← hm]; rfl
        have HA2 := Lib.hid hAT
        clear h1 hm hAT hb
        go_wp2_with fail
        go_region_held3 (fun w' => (w'.cell? ⟨W.heap.size, 0, none⟩ = some (.int .i64 nd) ∧ w'.cell? ⟨W.heap.size, 1, none⟩ = some (.slice (some ⟨b, o, none⟩) len cap)) ∧ w'.cell? ⟨b, o + i, none⟩ = some (.int .i64 x)) (go_keep) (first
          | (go_at_call 61; refine (l1In_any _ _ _ _).mono ?_; rw [H1.out]; rintro e w' ⟨rfl, rfl⟩)
          | (go_at_call 62; refine (has_any _ _ _ _ (nx.take i) x (by omega) HTK.out).mono ?_; rw [← HM.out]; rintro e w' ⟨rfl, rfl⟩))
        cases m
        · go_wp2
          go_roundw
          case rel => exact ⟨i + 1, hlt, by go_num, Lib.hid (next_allB HR.out HA2.out), HBD.out⟩
          case measure => simp [intOf]; omega
        · have HE : Hid (v = false) := Lib.hid (by rw [HV.out]; exact brOk_no hix HA2.out)
          go_wp2
          go_ret
          exact ⟨ret_bool HE.out.symm, HBV.out.trans (HBD.out.mono HBV.out.size)⟩
    · obtain rfl : i = len := by omega
      have HE : Hid (v = (inR nd 0 7 && inR (i : Int) 1 4)) := Lib.hid (by rw [HV.out, brOk_all (fun j hj => HR.out j (by rw [HL.out] at hj; exact hj)), HL.out])
      clear hb
      cases h1 : inR nd 0 7
      · have H1 := Lib.hid h1
        rw [h1] at HE
        clear h1
        go_wp2_with (first
          | (go_at_call 61; refine (l1In_any nd _ _ _).mono ?_; rw [H1.out]; rintro e w' ⟨rfl, rfl⟩))
        go_ret
        exact ⟨ret_bool HE.out.symm, HBV.out.trans (HBU.out.mono HBV.out.size)⟩
      · have H1 := Lib.hid h1
        rw [h1] at HE
        obtain ⟨m, hm⟩ : ∃ m, m = inR (i : Int) 1 4 := ⟨_, rfl⟩
        have HM := Lib.hid hm
        rw [← hm] at HE
        clear h1 hm
        go_wp2_with (first
          | (go_at_call_of 61 nd; refine (l1In_any nd _ _ _).mono ?_; rw [H1.out]; rintro e w' ⟨rfl, rfl⟩)
          | (go_at_call 61; refine (l1In_any (i : Int) _ _ _).mono ?_; rw [← HM.out]; rintro e w' ⟨rfl, rfl⟩))
        go_ret
        exact ⟨ret_bool (by rw [HE.out]; rfl), HBV.out.trans (HBU.out.mono HBV.out.size)⟩
end Go.Proofs.Ytgninjdnfidpcaa
