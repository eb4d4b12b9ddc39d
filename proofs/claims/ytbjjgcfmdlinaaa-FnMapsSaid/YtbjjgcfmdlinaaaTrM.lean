/- AreTraces and GapsIn, the model's. -/
import Derived.Test.YtbjjgcfmdlinaaaTrF
import Derived.Test.YtbjjgcfmdlinaaaTrL
import Derived.Test.YtbjjgcfmdlinaaaTake
import Derived.Deep.DeepCutAuto
namespace Go.Proofs.Ytbjjgcfmdlinaaa
open Go.RowKit
theorem sees_takeT {w : World} {b o len : Nat} {zs : List Int} (h : Sees .i64 w (some ⟨b, o, none⟩) len zs) {k : Nat} (hk : k ≤ len) : Sees .i64 w (some ⟨b, o, none⟩) k (zs.take k) := by
  obtain ⟨h1, h2, h3⟩ := h
  refine ⟨by rw [List.length_take]; omega, fun n hn => h2 n (List.mem_of_mem_take hn), ?_⟩
  rcases h3 with h0 | ⟨b', o', ha, hb, hc⟩
  · exact .inl (by omega)
  · cases ha
    refine .inr ⟨b, o, rfl, hb, fun j hj => ?_⟩
    rw [hc j (by omega)]
    simp [List.getD, hj]
theorem next_allTr {P : Nat → Prop} {k : Nat} (h : ∀ j, j < k → P j) (h1 : P k) : ∀ j, j < k + 1 → P j := fun j hj => by
  rcases Nat.lt_or_eq_of_le (Nat.lt_succ_iff.1 hj) with h2 | h2
  · exact h j h2
  · rw [h2]; exact h1
set_option maxRecDepth 20000 in
set_option maxHeartbeats 6400000 in
theorem specAreT_any (W : World) (a : Option Addr) (len cap : Nat) (ms : List (List Int)) (hl : len ≤ 1073741824) (hs : SeesM W a len ms) :
    Calls Try.prog 13 #[.slice a len cap] W fun e w' => e = .returned (.bool (areT ms)) ∧ Below W.heap.size W w' := by
  have HS := Lib.hid hs
  have HL := Lib.hid hs.1
  obtain ⟨v, hv⟩ : ∃ v, v = areT ms := ⟨_, rfl⟩
  rw [← hv]
  have HV := Lib.hid hv
  clear hs hv
  go_enter Try.func13, Try.ntmps13
  go_wp2
  go_loopw [3, 4, 5] (fun s _ _ wr => ∃ i : Nat, i ≤ len ∧ s = .int .i64 i ∧ Hid (∀ j, j < i → trOk (row ms j) = true) ∧ Below W.heap.size W wr) (fun s _ _ _ => len - (intOf s).toNat)
  case atStart => exact ⟨0, Nat.zero_le _, rfl, Lib.hid (fun j hj => absurd hj (Nat.not_lt_zero _)), Below.refl _ _⟩
  case round =>
    obtain ⟨i, hi, rfl, HR, hb⟩ := hrel
    have HB := Lib.hid hb
    by_cases hlt : i < len
    · have him : i < ms.length := by rw [HL.out]; exact hlt
      obtain ⟨b, off, ar, cr, rfl, hbl, hc, hle, hcm, hsr⟩ := HS.out.2 i hlt
      have hcw := (hb.cell (p := ⟨b, off + i, none⟩) hbl).trans hc
      obtain ⟨zk, hzk⟩ : ∃ zk, zk = row ms i := ⟨_, rfl⟩
      rw [← hzk] at hcw hle hsr
      have HZK := Lib.hid hzk
      have HZ := Lib.hid hsr
      have i0 : (0 : Int) ≤ (i : Int) := by omega
      have i1 : (i : Int) < (len : Int) := by omega
      clear hc hcm hsr hzk hb
      by_cases h8 : zk.length ≤ 8
      · have h8i : ¬ (8 : Int) < (zk.length : Int) := by omega
        go_wp2
        go_loopw [5] (fun s wr2 => ∃ k : Nat, k ≤ zk.length ∧ s = .int .i64 k ∧ Hid (∀ j, j < k → trAt zk j = true) ∧ Below W.heap.size W wr2) (fun s _ => zk.length - (intOf s).toNat)
        case atStart => exact ⟨0, Nat.zero_le _, rfl, Lib.hid (fun j hj => absurd hj (Nat.not_lt_zero _)), HB.out⟩
        case round =>
          clear HB hcw
          obtain ⟨k, hk, rfl, HK, hb⟩ := hrel
          obtain ⟨U, rfl⟩ : ∃ U, U = wr := ⟨_, rfl⟩
          have HB := Lib.hid hb
          by_cases hkl : k < zk.length
          · have HZU := Lib.hid (HZ.out.below hb)
            rcases HZU.out.2.2 with h0 | ⟨b2, o2, rfl, hb2, hcs⟩
            · omega
            have cx := hcs k hkl
            obtain ⟨x, hx⟩ : ∃ x, x = zk.getD k 0 := ⟨_, rfl⟩
            rw [← hx] at cx
            have HAT : Hid (trAt zk k = (inR x (-1) 7 && (decide (x < 0) || !hasB (zk.take k) x))) := Lib.hid (by unfold trAt; rw [hx])
            have HTK := Lib.hid ((sees_takeT HZU.out hk).below (Below.refl _ _).drew)
            have CX := Lib.hid cx
            have HBD := Lib.hid (below_up hb (Below.refl U.heap.size U).drew (Nat.le_refl _))
            have k0 : (0 : Int) ≤ (k : Int) := by omega
            have k1 : (k : Int) < (zk.length : Int) := by omega
            have k2 : (k : Int) ≤ (cr : Int) := by omega
            have k3 : (k : Int) ≤ (zk.length : Int) := by omega
            have k4 : (zk.length : Int) ≤ (cr : Int) := by omega
            clear hcs hx hb
            cases h1 : inR x (-1) 7
            · have H1 := Lib.hid h1
              have HE : Hid (v = false) := Lib.hid (by rw [HV.out]; exact areT_no him (by rw [← HZK.out]; exact trOk_no hkl (by rw [HAT.out, h1]; rfl)))
              clear h1
              go_wp2_with fail
              refine wp_region_noPanic ?_
              refine wp_region_held_drew (S := (fun w' => w'.cell? ⟨b2, o2 + k, none⟩ = some (.int .i64 x))) (by kernel_rfl) ?_ (fun hHeld => ?_)
              · rw [World.cell?_drew]; exact CX.out
              refine take_val 0 (some 26) (.slice (some ⟨b2, o2, none⟩) zk.length cr) (by kernel_rfl) (by kernel_rfl) (by kernel_rfl) (fun _ _ _ h => h) ⟨_, rfl, rfl, by rfl, fun w hSw => by go_simp⟩ (by assumption) ?_
              try simp only [Act.put, List.setIfInBounds_toArray, List.set_cons_zero, List.set_cons_succ]
              refine take_val 1 (some 27) (.int .i64 k) (by kernel_rfl) (by kernel_rfl) (by kernel_rfl) (fun _ _ _ h => h) ⟨_, rfl, rfl, by rfl, fun w hSw => by go_simp⟩ (by assumption) ?_
              try simp only [Act.put, List.setIfInBounds_toArray, List.set_cons_zero, List.set_cons_succ]
              refine take_val 2 (some 28) (.pointer (some ⟨b2, o2 + k, none⟩)) (by kernel_rfl) (by kernel_rfl) (by kernel_rfl) (fun _ _ _ h => h) ⟨_, rfl, rfl, by rfl, fun w hSw => by go_simp⟩ (by assumption) ?_
              try simp only [Act.put, List.setIfInBounds_toArray, List.set_cons_zero, List.set_cons_succ]
              refine take_val 3 (some 29) (.int .i64 x) (by kernel_rfl) (by kernel_rfl) (by kernel_rfl) (fun _ _ _ h => h) ⟨_, rfl, rfl, by rfl, fun w hSw => by go_simp⟩ (by assumption) ?_
              try simp only [Act.put, List.setIfInBounds_toArray, List.set_cons_zero, List.set_cons_succ]
              refine wpAnyH_ready (rs := [4]) (by kernel_rfl) (by simp) ?_
              refine AllReadyH.cons rfl (fun K hK => ?_) AllReadyH.nil
              go_simp
              go_at_call 41
              refine (l1In_any _ _ _ _).mono ?_
              rw [H1.out]
              rintro e z2 ⟨rfl, rfl⟩
              clear hHeld
              refine hK.out _ _ (by rw [World.cell?_drew]; exact CX.out) (fun hHeld => ?_)
              clear hK K
              try simp only [Act.put, List.setIfInBounds_toArray, List.set_cons_zero, List.set_cons_succ]
              refine take_val 5 (some 31) (.bool true) (by kernel_rfl) (by kernel_rfl) (by kernel_rfl) (fun _ _ _ h => h) ⟨_, rfl, rfl, by rfl, fun w hSw => by go_simp⟩ (by assumption) ?_
              try simp only [Act.put, List.setIfInBounds_toArray, List.set_cons_zero, List.set_cons_succ]
              refine take_val 6 (some 32) (.bool true) (by kernel_rfl) (by kernel_rfl) (by kernel_rfl) (fun _ _ _ h => h) ⟨_, rfl, rfl, by rfl, fun w hSw => by go_simp⟩ (by assumption) ?_
              try simp only [Act.put, List.setIfInBounds_toArray, List.set_cons_zero, List.set_cons_succ]
              refine take_un 7 (some 33) (by kernel_rfl) (by kernel_rfl) (by kernel_rfl) (fun _ _ _ h => h) ⟨_, rfl, rfl, by rfl⟩ (by assumption) ?_
              try simp only [Act.put, List.setIfInBounds_toArray, List.set_cons_zero, List.set_cons_succ]
              refine take_un 8 (some 34) (by kernel_rfl) (by kernel_rfl) (by kernel_rfl) (fun _ _ _ h => h) ⟨_, rfl, rfl, by rfl⟩ (by assumption) ?_
              try simp only [Act.put, List.setIfInBounds_toArray, List.set_cons_zero, List.set_cons_succ]
              refine take_un 9 (some 35) (by kernel_rfl) (by kernel_rfl) (by kernel_rfl) (fun _ _ _ h => h) ⟨_, rfl, rfl, by rfl⟩ (by assumption) ?_
              try simp only [Act.put, List.setIfInBounds_toArray, List.set_cons_zero, List.set_cons_succ]
              refine take_un 10 (some 36) (by kernel_rfl) (by kernel_rfl) (by kernel_rfl) (fun _ _ _ h => h) ⟨_, rfl, rfl, by rfl⟩ (by assumption) ?_
              try simp only [Act.put, List.setIfInBounds_toArray, List.set_cons_zero, List.set_cons_succ]
              refine take_un 11 (some 37) (by kernel_rfl) (by kernel_rfl) (by kernel_rfl) (fun _ _ _ h => h) ⟨_, rfl, rfl, by rfl⟩ (by assumption) ?_
              try simp only [Act.put, List.setIfInBounds_toArray, List.set_cons_zero, List.set_cons_succ]
              refine take_un 12 (some 38) (by kernel_rfl) (by kernel_rfl) (by kernel_rfl) (fun _ _ _ h => h) ⟨_, rfl, rfl, by rfl⟩ (by assumption) ?_
              try simp only [Act.put, List.setIfInBounds_toArray, List.set_cons_zero, List.set_cons_succ]
              refine take_un 13 (some 39) (by kernel_rfl) (by kernel_rfl) (by kernel_rfl) (fun _ _ _ h => h) ⟨_, rfl, rfl, by rfl⟩ (by assumption) ?_
              try simp only [Act.put, List.setIfInBounds_toArray, List.set_cons_zero, List.set_cons_succ]
              refine take_un 14 (some 40) (by kernel_rfl) (by kernel_rfl) (by kernel_rfl) (fun _ _ _ h => h) ⟨_, rfl, rfl, by rfl⟩ (by assumption) ?_
              try simp only [Act.put, List.setIfInBounds_toArray, List.set_cons_zero, List.set_cons_succ]
              refine take_un 15 (some 41) (by kernel_rfl) (by kernel_rfl) (by kernel_rfl) (fun _ _ _ h => h) ⟨_, rfl, rfl, by rfl⟩ (by assumption) ?_
              try simp only [Act.put, List.setIfInBounds_toArray, List.set_cons_zero, List.set_cons_succ]
              refine take_un 16 (some 42) (by kernel_rfl) (by kernel_rfl) (by kernel_rfl) (fun _ _ _ h => h) ⟨_, rfl, rfl, by rfl⟩ (by assumption) ?_
              try simp only [Act.put, List.setIfInBounds_toArray, List.set_cons_zero, List.set_cons_succ]
              refine take_un 17 (some 43) (by kernel_rfl) (by kernel_rfl) (by kernel_rfl) (fun _ _ _ h => h) ⟨_, rfl, rfl, by rfl⟩ (by assumption) ?_
              try simp only [Act.put, List.setIfInBounds_toArray, List.set_cons_zero, List.set_cons_succ]
              refine take_un 18 (some 44) (by kernel_rfl) (by kernel_rfl) (by kernel_rfl) (fun _ _ _ h => h) ⟨_, rfl, rfl, by rfl⟩ (by assumption) ?_
              try simp only [Act.put, List.setIfInBounds_toArray, List.set_cons_zero, List.set_cons_succ]
              refine take_un 19 (some 45) (by kernel_rfl) (by kernel_rfl) (by kernel_rfl) (fun _ _ _ h => h) ⟨_, rfl, rfl, by rfl⟩ (by assumption) ?_
              try simp only [Act.put, List.setIfInBounds_toArray, List.set_cons_zero, List.set_cons_succ]
              refine take_un 20 (some 46) (by kernel_rfl) (by kernel_rfl) (by kernel_rfl) (fun _ _ _ h => h) ⟨_, rfl, rfl, by rfl⟩ (by assumption) ?_
              try simp only [Act.put, List.setIfInBounds_toArray, List.set_cons_zero, List.set_cons_succ]
              refine take_un 21 (some 47) (by kernel_rfl) (by kernel_rfl) (by kernel_rfl) (fun _ _ _ h => h) ⟨_, rfl, rfl, by rfl⟩ (by assumption) ?_
              try simp only [Act.put, List.setIfInBounds_toArray, List.set_cons_zero, List.set_cons_succ]
              refine take_val 22 (some 48) (.bool true) (by kernel_rfl) (by kernel_rfl) (by kernel_rfl) (fun _ _ _ h => h) ⟨_, rfl, rfl, by rfl, fun w hSw => by go_simp⟩ (by assumption) ?_
              try simp only [Act.put, List.setIfInBounds_toArray, List.set_cons_zero, List.set_cons_succ]
              refine wpAnyH_done (by kernel_rfl) ?_ _
              refine NoPanic.normal ?_
              go_wp2
              go_ret
              exact ⟨ret_bool HE.out.symm, HBD.out⟩
            · have H1 := Lib.hid h1
              by_cases hx0 : 0 ≤ x
              · obtain ⟨m, hm⟩ : ∃ m, m = hasB (zk.take k) x := ⟨_, rfl⟩
                have HM := Lib.hid hm
                have hAT : trAt zk k = !m := by rw [HAT.out, h1, ← hm, decide_eq_false (by omega)]; rfl
                have HA2 := Lib.hid hAT
                clear h1 hm hAT
                go_wp2_with fail
                go_region_held3 (fun w' => w'.cell? ⟨b2, o2 + k, none⟩ = some (.int .i64 x)) (go_keep) (first
                  | (go_at_call 41; refine (l1In_any _ _ _ _).mono ?_; rw [H1.out]; rintro e w' ⟨rfl, rfl⟩)
                  | (go_at_call 42; refine (has_any _ _ _ _ (zk.take k) x (by omega) HTK.out).mono ?_; rw [← HM.out]; rintro e w' ⟨rfl, rfl⟩))
                cases m
                · go_wp2
                  go_roundw
                  case rel => exact ⟨k + 1, hkl, by go_num, Lib.hid (next_allTr HK.out HA2.out), HBD.out⟩
                  case measure => simp [intOf]; omega
                · have HE : Hid (v = false) := Lib.hid (by rw [HV.out]; exact areT_no him (by rw [← HZK.out]; exact trOk_no hkl HA2.out))
                  go_wp2
                  go_ret
                  exact ⟨ret_bool HE.out.symm, HBD.out⟩
              · have hAT : trAt zk k = true := by rw [HAT.out, h1, decide_eq_true (by omega)]; rfl
                have HA2 := Lib.hid hAT
                clear h1 hAT
                go_wp2_with fail
                refine wp_region_noPanic ?_
                refine wp_region_held_drew (S := (fun w' => w'.cell? ⟨b2, o2 + k, none⟩ = some (.int .i64 x))) (by kernel_rfl) ?_ (fun hHeld => ?_)
                · rw [World.cell?_drew]; exact CX.out
                refine take_val 0 (some 26) (.slice (some ⟨b2, o2, none⟩) zk.length cr) (by kernel_rfl) (by kernel_rfl) (by kernel_rfl) (fun _ _ _ h => h) ⟨_, rfl, rfl, by rfl, fun w hSw => by go_simp⟩ (by assumption) ?_
                try simp only [Act.put, List.setIfInBounds_toArray, List.set_cons_zero, List.set_cons_succ]
                refine take_val 1 (some 27) (.int .i64 k) (by kernel_rfl) (by kernel_rfl) (by kernel_rfl) (fun _ _ _ h => h) ⟨_, rfl, rfl, by rfl, fun w hSw => by go_simp⟩ (by assumption) ?_
                try simp only [Act.put, List.setIfInBounds_toArray, List.set_cons_zero, List.set_cons_succ]
                refine take_val 2 (some 28) (.pointer (some ⟨b2, o2 + k, none⟩)) (by kernel_rfl) (by kernel_rfl) (by kernel_rfl) (fun _ _ _ h => h) ⟨_, rfl, rfl, by rfl, fun w hSw => by go_simp⟩ (by assumption) ?_
                try simp only [Act.put, List.setIfInBounds_toArray, List.set_cons_zero, List.set_cons_succ]
                refine take_val 3 (some 29) (.int .i64 x) (by kernel_rfl) (by kernel_rfl) (by kernel_rfl) (fun _ _ _ h => h) ⟨_, rfl, rfl, by rfl, fun w hSw => by go_simp⟩ (by assumption) ?_
                try simp only [Act.put, List.setIfInBounds_toArray, List.set_cons_zero, List.set_cons_succ]
                refine wpAnyH_ready (rs := [4]) (by kernel_rfl) (by simp) ?_
                refine AllReadyH.cons rfl (fun K hK => ?_) AllReadyH.nil
                go_simp
                go_at_call 41
                refine (l1In_any _ _ _ _).mono ?_
                rw [H1.out]
                rintro e z2 ⟨rfl, rfl⟩
                clear hHeld
                refine hK.out _ _ (by rw [World.cell?_drew]; exact CX.out) (fun hHeld => ?_)
                clear hK K
                try simp only [Act.put, List.setIfInBounds_toArray, List.set_cons_zero, List.set_cons_succ]
                refine take_val 5 (some 31) (.bool false) (by kernel_rfl) (by kernel_rfl) (by kernel_rfl) (fun _ _ _ h => h) ⟨_, rfl, rfl, by rfl, fun w hSw => by go_simp⟩ (by assumption) ?_
                try simp only [Act.put, List.setIfInBounds_toArray, List.set_cons_zero, List.set_cons_succ]
                refine take_val 6 (some 32) (.bool false) (by kernel_rfl) (by kernel_rfl) (by kernel_rfl) (fun _ _ _ h => h) ⟨_, rfl, rfl, by rfl, fun w hSw => by go_simp⟩ (by assumption) ?_
                try simp only [Act.put, List.setIfInBounds_toArray, List.set_cons_zero, List.set_cons_succ]
                refine take_val 7 (some 33) (.slice (some ⟨b2, o2, none⟩) zk.length cr) (by kernel_rfl) (by kernel_rfl) (by kernel_rfl) (fun _ _ _ h => h) ⟨_, rfl, rfl, by rfl, fun w hSw => by go_simp⟩ (by assumption) ?_
                try simp only [Act.put, List.setIfInBounds_toArray, List.set_cons_zero, List.set_cons_succ]
                refine take_val 8 (some 34) (.int .i64 k) (by kernel_rfl) (by kernel_rfl) (by kernel_rfl) (fun _ _ _ h => h) ⟨_, rfl, rfl, by rfl, fun w hSw => by go_simp⟩ (by assumption) ?_
                try simp only [Act.put, List.setIfInBounds_toArray, List.set_cons_zero, List.set_cons_succ]
                refine take_val 9 (some 35) (.pointer (some ⟨b2, o2 + k, none⟩)) (by kernel_rfl) (by kernel_rfl) (by kernel_rfl) (fun _ _ _ h => h) ⟨_, rfl, rfl, by rfl, fun w hSw => by go_simp⟩ (by assumption) ?_
                try simp only [Act.put, List.setIfInBounds_toArray, List.set_cons_zero, List.set_cons_succ]
                refine take_val 10 (some 36) (.int .i64 x) (by kernel_rfl) (by kernel_rfl) (by kernel_rfl) (fun _ _ _ h => h) ⟨_, rfl, rfl, by rfl, fun w hSw => by go_simp⟩ (by assumption) ?_
                try simp only [Act.put, List.setIfInBounds_toArray, List.set_cons_zero, List.set_cons_succ]
                refine take_val 11 (some 37) (.bool false) (by kernel_rfl) (by kernel_rfl) (by kernel_rfl) (fun _ _ _ h => h) ⟨_, rfl, rfl, by rfl, fun w hSw => by go_simp⟩ (by assumption) ?_
                try simp only [Act.put, List.setIfInBounds_toArray, List.set_cons_zero, List.set_cons_succ]
                refine take_val 12 (some 38) (.bool false) (by kernel_rfl) (by kernel_rfl) (by kernel_rfl) (fun _ _ _ h => h) ⟨_, rfl, rfl, by rfl, fun w hSw => by go_simp⟩ (by assumption) ?_
                try simp only [Act.put, List.setIfInBounds_toArray, List.set_cons_zero, List.set_cons_succ]
                refine take_un 13 (some 39) (by kernel_rfl) (by kernel_rfl) (by kernel_rfl) (fun _ _ _ h => h) ⟨_, rfl, rfl, by rfl⟩ (by assumption) ?_
                try simp only [Act.put, List.setIfInBounds_toArray, List.set_cons_zero, List.set_cons_succ]
                refine take_un 14 (some 40) (by kernel_rfl) (by kernel_rfl) (by kernel_rfl) (fun _ _ _ h => h) ⟨_, rfl, rfl, by rfl⟩ (by assumption) ?_
                try simp only [Act.put, List.setIfInBounds_toArray, List.set_cons_zero, List.set_cons_succ]
                refine take_un 15 (some 41) (by kernel_rfl) (by kernel_rfl) (by kernel_rfl) (fun _ _ _ h => h) ⟨_, rfl, rfl, by rfl⟩ (by assumption) ?_
                try simp only [Act.put, List.setIfInBounds_toArray, List.set_cons_zero, List.set_cons_succ]
                refine take_un 16 (some 42) (by kernel_rfl) (by kernel_rfl) (by kernel_rfl) (fun _ _ _ h => h) ⟨_, rfl, rfl, by rfl⟩ (by assumption) ?_
                try simp only [Act.put, List.setIfInBounds_toArray, List.set_cons_zero, List.set_cons_succ]
                refine take_un 17 (some 43) (by kernel_rfl) (by kernel_rfl) (by kernel_rfl) (fun _ _ _ h => h) ⟨_, rfl, rfl, by rfl⟩ (by assumption) ?_
                try simp only [Act.put, List.setIfInBounds_toArray, List.set_cons_zero, List.set_cons_succ]
                refine take_un 18 (some 44) (by kernel_rfl) (by kernel_rfl) (by kernel_rfl) (fun _ _ _ h => h) ⟨_, rfl, rfl, by rfl⟩ (by assumption) ?_
                try simp only [Act.put, List.setIfInBounds_toArray, List.set_cons_zero, List.set_cons_succ]
                refine take_un 19 (some 45) (by kernel_rfl) (by kernel_rfl) (by kernel_rfl) (fun _ _ _ h => h) ⟨_, rfl, rfl, by rfl⟩ (by assumption) ?_
                try simp only [Act.put, List.setIfInBounds_toArray, List.set_cons_zero, List.set_cons_succ]
                refine take_un 20 (some 46) (by kernel_rfl) (by kernel_rfl) (by kernel_rfl) (fun _ _ _ h => h) ⟨_, rfl, rfl, by rfl⟩ (by assumption) ?_
                try simp only [Act.put, List.setIfInBounds_toArray, List.set_cons_zero, List.set_cons_succ]
                refine take_val 21 (some 47) (.bool false) (by kernel_rfl) (by kernel_rfl) (by kernel_rfl) (fun _ _ _ h => h) ⟨_, rfl, rfl, by rfl, fun w hSw => by go_simp⟩ (by assumption) ?_
                try simp only [Act.put, List.setIfInBounds_toArray, List.set_cons_zero, List.set_cons_succ]
                refine take_val 22 (some 48) (.bool false) (by kernel_rfl) (by kernel_rfl) (by kernel_rfl) (fun _ _ _ h => h) ⟨_, rfl, rfl, by rfl, fun w hSw => by go_simp⟩ (by assumption) ?_
                try simp only [Act.put, List.setIfInBounds_toArray, List.set_cons_zero, List.set_cons_succ]
                refine wpAnyH_done (by kernel_rfl) ?_ _
                refine NoPanic.normal ?_
                go_wp2
                go_roundw
                case rel => exact ⟨k + 1, hkl, by go_num, Lib.hid (next_allTr HK.out HA2.out), HBD.out⟩
                case measure => simp [intOf]; omega
          · obtain rfl : k = zk.length := by omega
            have HOK : Hid (trOk (row ms i) = true) := Lib.hid (by rw [← HZK.out]; exact trOk_true.2 ⟨h8, HK.out⟩)
            clear hb
            go_wp2
            go_roundw
            case rel => exact ⟨i + 1, hlt, by go_num, Lib.hid (next_allTr HR.out HOK.out), HB.out⟩
            case measure => simp [intOf]; omega
      · have h8i : (8 : Int) < (zk.length : Int) := by omega
        have HE : Hid (v = false) := Lib.hid (by rw [HV.out]; exact areT_no him (by rw [← HZK.out]; exact trOk_long h8))
        go_wp2
        go_ret
        exact ⟨ret_bool HE.out.symm, HB.out⟩
    · obtain rfl : i = len := by omega
      have HE : Hid (v = decide (i ≤ 8)) := Lib.hid (by rw [HV.out, areT_all (fun j hj => HR.out j (by rw [HL.out] at hj; exact hj)), HL.out])
      clear hb
      by_cases h8 : i ≤ 8
      · have h8i : (i : Int) ≤ 8 := by omega
        go_wp2
        go_ret
        exact ⟨ret_bool (by rw [HE.out, decide_eq_true h8]), HB.out⟩
      · have h8i : ¬ (i : Int) ≤ 8 := by omega
        go_wp2
        go_ret
        exact ⟨ret_bool (by rw [HE.out, decide_eq_false h8]), HB.out⟩
set_option maxRecDepth 20000 in
set_option maxHeartbeats 3200000 in
theorem specGap_any (W : World) (a : Option Addr) (len cap : Nat) (ms : List (List Int)) (hsm : SmallM ms) (hs : SeesM W a len ms) :
    Calls Try.prog 27 #[.slice a len cap] W fun e w' => e = .returned (.int .i64 (gapV ms)) ∧ Below W.heap.size W w' := by
  have HS := Lib.hid hs
  have HL := Lib.hid hs.1
  have HG : Hid (∀ i k, i < len → k ≤ (row ms i).length → gapK ms i + gapR (row ms i) k ≤ 1048576) := Lib.hid (fun i k hi hk => by
    have h1 := gapK_le ms i
    have h2 := gapR_le (row ms i) k
    have h3 := hsm.row (r := i) (by rw [hs.1]; exact hi)
    have h4 := hsm
    unfold SmallM at h4
    omega)
  have HZL : Hid (∀ i, i < len → (row ms i).length ≤ 1048576) := Lib.hid (fun i hi => by
    have h3 := hsm.row (r := i) (by rw [hs.1]; exact hi)
    have h4 := hsm
    unfold SmallM at h4
    omega)
  have hl : len ≤ 1048576 := by unfold SmallM at hsm; have := hs.1; omega
  obtain ⟨v, hv⟩ : ∃ v, v = gapV ms := ⟨_, rfl⟩
  rw [← hv]
  have HV := Lib.hid hv
  clear hs hv hsm
  go_enter Try.func27, Try.ntmps27
  go_wp2
  go_loopw [3, 4, 5] (fun n s _ wr => ∃ i : Nat, i ≤ len ∧ n = .int .i64 (gapK ms i : Nat) ∧ s = .int .i64 i ∧ wr = W) (fun _ s _ _ => len - (intOf s).toNat)
  case atStart => exact ⟨0, Nat.zero_le _, rfl, rfl, rfl⟩
  case round =>
    obtain ⟨i, hi, rfl, rfl, rfl⟩ := hrel
    by_cases hlt : i < len
    · obtain ⟨b, off, ar, cr, rfl, hbl, hc, hle, hcm, hsr⟩ := HS.out.2 i hlt
      obtain ⟨zk, hzk⟩ : ∃ zk, zk = row ms i := ⟨_, rfl⟩
      rw [← hzk] at hc hle hsr
      have HZ := Lib.hid hsr
      have HB : Hid (∀ k, k ≤ zk.length → gapK ms i + gapR zk k ≤ 1048576) := Lib.hid (fun k hk => by rw [hzk] at hk ⊢; exact HG.out i k hlt hk)
      have hzl : zk.length ≤ 1048576 := by rw [hzk]; exact HZL.out i hlt
      have HN : Hid (gapK ms (i + 1) = gapK ms i + gapR zk zk.length) := Lib.hid (by rw [hzk]; rfl)
      have i0 : (0 : Int) ≤ (i : Int) := by omega
      have i1 : (i : Int) < (len : Int) := by omega
      clear hcm hsr hzk
      go_wp2
      go_loopw [3, 5] (fun n s w => ∃ k : Nat, k ≤ zk.length ∧ n = .int .i64 (gapK ms i + gapR zk k : Nat) ∧ s = .int .i64 k ∧ w = wr) (fun _ s _ => zk.length - (intOf s).toNat)
      case atStart => exact ⟨0, Nat.zero_le _, by simp [gapR], rfl, rfl⟩
      case round =>
        obtain ⟨k, hk, rfl, rfl, rfl⟩ := hrel
        by_cases hkl : k < zk.length
        · rcases HZ.out.2.2 with h0 | ⟨b2, o2, rfl, hb2, hcs⟩
          · omega
          have cx := hcs k hkl
          obtain ⟨x, hx⟩ : ∃ x, x = zk.getD k 0 := ⟨_, rfl⟩
          rw [← hx] at cx
          have hbd := HB.out (k + 1) hkl
          obtain ⟨n, hn⟩ : ∃ n, n = gapK ms i + gapR zk k := ⟨_, rfl⟩
          rw [← hn]
          have k0 : (0 : Int) ≤ (k : Int) := by omega
          have k1 : (k : Int) < (zk.length : Int) := by omega
          by_cases hx1 : x = -1
          · have HE : Hid (gapK ms i + gapR zk (k + 1) = n + 1) := Lib.hid (by simp only [gapR]; rw [← hx, if_pos hx1]; omega)
            have wn : IntKind.i64.wrap ((n : Int) + 1) = ((n + 1 : Nat) : Int) := (IntWalk.i64_in _ (by have := HE.out; omega)).trans (by omega)
            subst hx1
            clear hcs hx hn hbd
            go_wp2
            go_roundw
            case rel => exact ⟨k + 1, hkl, by rw [HE.out]; go_num, by go_num, trivial⟩
            case measure => simp [intOf]; omega
          · have HE : Hid (gapK ms i + gapR zk (k + 1) = n) := Lib.hid (by simp only [gapR]; rw [← hx, if_neg hx1]; omega)
            have hxb : (x == -1) = false := by rw [beq_eq_false_iff_ne]; exact hx1
            clear hcs hx hn hbd
            go_wp2
            go_roundw
            case rel => exact ⟨k + 1, hkl, by rw [HE.out], by go_num, trivial⟩
            case measure => simp [intOf]; omega
        · obtain rfl : k = zk.length := by omega
          go_wp2
          go_roundw
          case rel => exact ⟨i + 1, hlt, by rw [HN.out], by go_num, trivial⟩
          case measure => simp [intOf]; omega
    · obtain rfl : i = len := by omega
      have HE : Hid ((gapK ms i : Int) = v) := Lib.hid (by rw [HV.out]; unfold gapV; rw [HL.out])
      go_wp2
      go_ret
      exact ⟨ret_int HE.out, Below.refl _ _⟩
end Go.Proofs.Ytbjjgcfmdlinaaa
