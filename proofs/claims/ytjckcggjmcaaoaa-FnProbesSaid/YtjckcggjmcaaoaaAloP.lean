/- The program's AloneOn: a search with a function that knows the link. -/
import Derived.Test.YtjckcggjmcaaoaaAlone
import Derived.Test.YtjckcggjmcaaoaaNetV
namespace Go.Proofs.Ytjckcggjmcaaoaa
open Go.RowKit
theorem one_at0 {W : World} {ar : Option Addr} {zs : List Int} (h1 : zs.length = 1) (h : Sees .i64 W ar zs.length zs) : ∃ b2 o2, ar = some ⟨b2, o2, none⟩ ∧ b2 < W.heap.size ∧ W.cell? ⟨b2, o2, none⟩ = some (.int .i64 (zs.getD 0 0)) := by
  rcases h.2.2 with h0 | ⟨b2, o2, ha2, hlt2, hcc⟩
  · omega
  · exact ⟨b2, o2, ha2, hlt2, by have := hcc 0 (by omega); simpa using this⟩
set_option maxRecDepth 20000 in
set_option maxHeartbeats 800000 in
theorem alone1_any (W : World) (b1 : Nat) (x y l : Int) (ar : Option Addr) (cr : Nat) (zs : List Int) (hb1 : b1 < W.heap.size) (hc : W.cell? ⟨b1, 0, none⟩ = some (.int .i64 l)) (hs : Sees .i64 W ar zs.length zs) :
    Calls Try.prog 36 #[.agg #[.int .i64 x, .int .i64 y, .slice ar zs.length cr], .pointer (some ⟨b1, 0, none⟩)] W fun e w' => e = .returned (.bool (decide (zs = [l]))) ∧ Below W.heap.size W w' := by
  obtain ⟨V, hV⟩ : ∃ V, V = W.alloc (.cells #[.int .i64 x, .int .i64 y, .slice ar zs.length cr] 38) := ⟨_, rfl⟩
  have hb0 : Below W.heap.size W V := by
    rw [hV]
    exact (Below.refl _ _).alloc (Nat.le_refl _) _
  have k2 : V.cell? ⟨W.heap.size, 2, none⟩ = some (.slice ar zs.length cr) := by rw [hV]; go_simp
  have k0 := (hb0.cell (p := ⟨b1, 0, none⟩) hb1).trans hc
  have hs2 := hs.below hb0
  have HB := Lib.hid hb0
  clear hc hs hb0
  by_cases h1 : zs.length = 1
  · obtain ⟨b2, o2, rfl, hb2, hcc⟩ := one_at0 h1 hs2
    obtain ⟨z, hz⟩ : ∃ z, z = zs.getD 0 0 := ⟨_, rfl⟩
    rw [← hz] at hcc
    have HZ := Lib.hid hz
    have HZ1 := Lib.hid h1
    rw [h1] at k2 hV
    rw [h1]
    clear hs2 hz h1
    by_cases hzl : z = l
    · have HE : Hid (decide (zs = [l]) = true) := Lib.hid (decide_eq_true (one_of HZ1.out (by rw [← HZ.out]; exact hzl)))
      subst hzl
      go_enter Try.func36, Try.ntmps36
      go_wp2_with fail
      rw [← hV]
      clear hV
      go_wp2_with fail
      go_quiet (fail)
      go_wp2
      go_ret
      exact ⟨ret_bool HE.out.symm, below_up HB.out (below_drewN0 _ _ _) (Nat.le_refl _)⟩
    · have HE : Hid (decide (zs = [l]) = false) := Lib.hid (decide_eq_false (not_one_at (by rw [← HZ.out]; exact hzl)))
      go_enter Try.func36, Try.ntmps36
      go_wp2_with fail
      rw [← hV]
      clear hV
      go_wp2_with fail
      go_quiet (fail)
      go_wp2
      go_ret
      exact ⟨ret_bool (by rw [HE.out]; simp [hzl]), below_up HB.out (below_drewN0 _ _ _) (Nat.le_refl _)⟩
  · have HE : Hid (decide (zs = [l]) = false) := Lib.hid (decide_eq_false (not_one_len h1))
    obtain ⟨n, hn⟩ : ∃ n, n = zs.length := ⟨_, rfl⟩
    rw [← hn] at k2 h1 hV
    rw [← hn]
    have hn1 : ¬ (n : Int) = 1 := by omega
    have hn2 : decide ((n : Int) = 1) = false := decide_eq_false hn1
    clear hs2 hn
    go_enter Try.func36, Try.ntmps36
    go_wp2_with fail
    rw [← hV]
    clear hV
    go_wp2_with fail
    go_quiet (fail)
    go_wp2
    go_ret
    exact ⟨ret_bool HE.out.symm, below_up HB.out (below_drewN0 _ _ _) (Nat.le_refl _)⟩
set_option maxRecDepth 20000 in
set_option maxHeartbeats 1600000 in
theorem idxAlone_any (W : World) (a : Option Addr) (len cap : Nat) (ps : List Prb) (l : Int) (b1 : Nat) (hb1 : b1 < W.heap.size) (hc : W.cell? ⟨b1, 0, none⟩ = some (.int .i64 l)) (hl : len ≤ 1073741824) (hs : SeesQ W a len ps) :
    Calls Try.prog 35 #[.slice a len cap, .func (.func 36) #[] #[.pointer (some ⟨b1, 0, none⟩)]] W fun e w' => e = .returned (.int .i64 (aloneV ps l)) ∧ Below W.heap.size W w' := by
  have HS := Lib.hid hs
  have HL := Lib.hid hs.1
  have HC := Lib.hid hc
  obtain ⟨v, hv⟩ : ∃ v, v = aloneV ps l := ⟨_, rfl⟩
  have HV := Lib.hid hv
  rw [← hv]
  clear hs hv hc
  go_enter Try.func35, Try.ntmps35
  go_wp2
  go_loopw [8, 5] (fun i _ wr => ∃ k : Nat, k ≤ len ∧ i = .int .i64 k ∧ Hid (∀ r, r < k → (prb ps r).2.2 ≠ [l]) ∧ Below W.heap.size W wr) (fun i _ _ => len - (intOf i).toNat)
  case atStart => exact ⟨0, Nat.zero_le _, rfl, Lib.hid (fun j hj => by omega), Below.refl _ _⟩
  case round =>
    obtain ⟨k, hk, rfl, HA, hb⟩ := hrel
    have HB := Lib.hid hb
    by_cases hlt : k < len
    · have hkm : k < ps.length := by rw [HL.out]; exact hlt
      obtain ⟨b, off, ar, cr, rfl, hbl, hc0, hc1, hc2, hle, hcm, hsr⟩ := (HS.out.below HB.out).2.2 k hlt
      obtain ⟨x, y, zs, hp⟩ : ∃ x y zs, prb ps k = (x, y, zs) := ⟨_, _, _, rfl⟩
      rw [hp] at hc0 hc1 hc2 hle hsr
      have HP := Lib.hid hp
      have HR := Lib.hid hsr
      have HC1 := Lib.hid ((HB.out.cell (p := ⟨b1, 0, none⟩) hb1).trans HC.out)
      have hbw : b1 < wr.heap.size := Nat.lt_of_lt_of_le hb1 HB.out.size
      clear hp hle hsr hcm hb
      by_cases hin : zs = [l]
      · have HE : Hid (v = k) := Lib.hid (by rw [HV.out]; exact aloneV_at hkm (by rw [HP.out]; exact hin) HA.out)
        have HIN : Hid (decide (zs = [l]) = true) := Lib.hid (decide_eq_true hin)
        clear hin
        go_wp2_with (go_at_call 36; refine (alone1_any _ b1 x y l _ _ zs hbw HC1.out HR.out).mono ?_; rw [HIN.out]; rintro e w2 ⟨rfl, hb2'⟩; have HB2 := Lib.hid (below_up HB.out hb2' (Nat.le_refl _)); clear hb2')
        go_ret
        exact ⟨ret_intV HE.out.symm, HB2.out⟩
      · have HIN : Hid (decide (zs = [l]) = false) := Lib.hid (decide_eq_false hin)
        have HN2 : Hid (∀ r, r < k + 1 → (prb ps r).2.2 ≠ [l]) := Lib.hid (fun r hr => by
            by_cases hrk : r < k
            · exact HA.out r hrk
            · obtain rfl : r = k := by omega
              rw [HP.out]
              exact hin)
        clear hin
        go_wp2_with (go_at_call 36; refine (alone1_any _ b1 x y l _ _ zs hbw HC1.out HR.out).mono ?_; rw [HIN.out]; rintro e w2 ⟨rfl, hb2'⟩; have HB2 := Lib.hid (below_up HB.out hb2' (Nat.le_refl _)); clear hb2')
        go_roundw
        case rel => exact ⟨k + 1, by omega, by go_num, HN2, HB2.out⟩
        case measure => simp [intOf]; omega
    · obtain rfl : k = len := by omega
      have HE : Hid (v = -1) := Lib.hid (by rw [HV.out, aloneV_none (by rw [HL.out]; exact HA.out)])
      clear hb
      go_wp2
      go_ret
      exact ⟨ret_intV HE.out.symm, HB.out⟩
theorem aloneP_any (W : World) (a : Option Addr) (len cap : Nat) (ps : List Prb) (l : Int) (hl : len ≤ 1073741824) (hs : SeesQ W a len ps) :
    Calls Try.prog 13 #[.slice a len cap, .int .i64 l] W fun e w' => e = .returned (.int .i64 (aloneV ps l)) ∧ Below W.heap.size W w' := by
  have hb0 : Below W.heap.size W (W.alloc (.cells #[.int .i64 l] 3)) := below_new _ _
  have HS := Lib.hid (hs.below hb0)
  have HC : Hid ((W.alloc (.cells #[.int .i64 l] 3)).cell? ⟨W.heap.size, 0, none⟩ = some (.int .i64 l)) := Lib.hid (by go_simp)
  have HB := Lib.hid hb0
  clear hs hb0
  go_enter Try.func13, Try.ntmps13
  go_wp2_with (go_at_call 35; refine (idxAlone_any _ a len cap ps l W.heap.size (by simp) HC.out hl HS.out).mono ?_; rintro e w2 ⟨rfl, hb2⟩; have HB2 := Lib.hid (below_up HB.out hb2 (Nat.le_refl _)); clear hb2)
  go_ret
  exact ⟨rfl, HB2.out⟩
end Go.Proofs.Ytjckcggjmcaaoaa
