/- Systems: the program's ValueOf. -/
import Derived.Test.YtgcgdgbogamlnaaDotS
import Derived.Test.YtgcgdgbogamlnaaSolP
namespace Go.Proofs.Ytgcgdgbogamlnaa
open Go.RowKit
set_option maxRecDepth 20000 in
set_option maxHeartbeats 1600000 in
theorem valP_any (W : World) (a : Option Addr) (len cap : Nat) (ms : List (List Int)) (b : Option Addr) (lb cb : Nat) (vs : List Int) (c : Option Addr) (lc cc : Nat) (z : List Int) (hsm : SmallM ms) (hs : SeesM W a len ms) (hl : lb ≤ 1073741824) (hcb : lb ≤ cb) (hcm : cb ≤ maxLen) (hs2 : Sees .i64 W b lb vs) (hlc : lc ≤ 1073741824) (hcc : lc ≤ cc) (hcx : cc ≤ maxLen) (hs3 : Sees .i64 W c lc z) (r : Option (Int × Int)) (hr : r = valR ms vs z) :
    Calls Try.prog 16 #[.slice a len cap, .slice b lb cb, .slice c lc cc] W (RatRes (dN r) (dD r) r.isSome W) := by
  have HSM := Lib.hid hsm
  have HZL := Lib.hid hs3.1
  have HCM := Lib.hid hcm
  have HCX := Lib.hid hcx
  have HR := Lib.hid hr
  obtain ⟨W1, hW1⟩ : ∃ W1, W1 = W.alloc (.cells #[.int .i64 0, .int .i64 0] 34) := ⟨_, rfl⟩
  have HB0 : Hid (Below W.heap.size W W1) := Lib.hid (by rw [hW1]; exact (Below.refl _ _).alloc (Nat.le_refl _) _)
  have HPR : Hid (PairAt W1 W.heap.size 0 0) := Lib.hid (by rw [hW1]; exact pair_new W 0 0 _)
  have HS := Lib.hid (hs.below HB0.out)
  have HV := Lib.hid (hs2.below HB0.out)
  have HZ := Lib.hid (hs3.below HB0.out)
  clear hs hsm hs2 hs3 hcm hcx hr
  cases hsol : solvB ms vs (lc : Int)
  · have HY := Lib.hid hsol
    have HE : Hid (r = none) := Lib.hid (HR.out.trans (valR_no1 (by rw [HZL.out]; exact hsol)))
    clear hsol
    go_enter Try.func16, Try.ntmps16
    go_wp2_with fail
    rw [← hW1]
    clear hW1
    go_wp2_with (go_at_call 12; refine (solP_any _ _ _ _ ms _ _ _ vs (lc : Int) HSM.out HS.out hl hcb HCM.out HV.out (by omega) (by omega)).mono ?_; rintro e w2 ⟨a2, l2, c2, he2, _, hb2⟩; rw [HY.out] at he2; subst he2; have HB2 := Lib.hid (below_up HB0.out hb2 (Nat.le_refl _)); have HP2 := Lib.hid (HPR.out.below hb2); have r0 := HP2.out.c0; have r1 := HP2.out.c1; have rf0 := HP2.out.f0; have rf1 := HP2.out.f1; clear hb2)
    refine bodyPost_ret (v := .tuple #[.agg #[.int .i64 0, .int .i64 0], .bool false]) (by simp [results, Try.results16, go_sem, r0, r1]) rfl ⟨by rw [HE.out]; rfl, below_put HB2.out (Nat.le_refl _) _ _⟩
  · have HY := Lib.hid hsol
    have hxl : (solL ms vs (lc : Int)).length = lc := solL_len hsol
    obtain ⟨xs, hxs⟩ : ∃ xs, xs = solL ms vs (lc : Int) := ⟨_, rfl⟩
    rw [← hxs] at hxl
    have HXS := Lib.hid hxs
    cases hsp : inSpanV ms z
    · have HE : Hid (r = none) := Lib.hid (HR.out.trans (valR_no2 hsp))
      have HP := Lib.hid hsp
      clear hsol hsp hxs
      go_enter Try.func16, Try.ntmps16
      go_wp2_with fail
      rw [← hW1]
      clear hW1
      go_wp2_with (first
        | (go_at_call 12; refine (solP_any _ _ _ _ ms _ _ _ vs (lc : Int) HSM.out HS.out hl hcb HCM.out HV.out (by omega) (by omega)).mono ?_; rintro e w2 ⟨a2, l2, c2, he2, _, hb2⟩; rw [HY.out] at he2; subst he2; have HB2 := Lib.hid hb2; clear hb2)
        | (go_at_call 18; refine (span_any _ _ _ _ ms _ _ _ z HSM.out (HS.out.below HB2.out) hlc hcc HCX.out (HZ.out.below HB2.out)).mono ?_; rw [HP.out]; rintro e w3 ⟨rfl, hb3⟩; have HB3' := Lib.hid (below_up HB2.out hb3 (Nat.le_refl _)); have HB3 := Lib.hid (below_up HB0.out HB3'.out (Nat.le_refl _)); have HP2 := Lib.hid (HPR.out.below HB3'.out); have r0 := HP2.out.c0; have r1 := HP2.out.c1; have rf0 := HP2.out.f0; have rf1 := HP2.out.f1; clear hb3))
      refine bodyPost_ret (v := .tuple #[.agg #[.int .i64 0, .int .i64 0], .bool false]) (by simp [results, Try.results16, go_sem, r0, r1]) rfl ⟨by rw [HE.out]; rfl, below_put HB3.out (Nat.le_refl _) _ _⟩
    · have HD : Hid (r = dotR z xs lc) := Lib.hid (by rw [HR.out, valR_yes (by rw [HZL.out]; exact hsol) hsp, HZL.out, ← hxs])
      have HP := Lib.hid hsp
      clear hsol hsp hxs
      obtain ⟨x, hx⟩ : ∃ x, x = dN r := ⟨_, rfl⟩
      obtain ⟨y, hy⟩ : ∃ y, y = dD r := ⟨_, rfl⟩
      obtain ⟨o, ho⟩ : ∃ o, o = r.isSome := ⟨_, rfl⟩
      have HXN := Lib.hid hx
      have HYN := Lib.hid hy
      have HON := Lib.hid ho
      clear hx hy ho
      go_enter Try.func16, Try.ntmps16
      go_wp2_with fail
      rw [← hW1]
      clear hW1
      go_wp2_with (first
        | (go_at_call 55; refine (sumP_any _ _ _ _ z _ _ _ xs (Nat.le_refl _) hlc (HZ.out.below HB3'.out) (HX2.out.below HB3x.out) r HD.out).mono ?_; rintro e w4 ⟨he4, hb4⟩; rw [← HXN.out, ← HYN.out, ← HON.out] at he4; subst he4; have HB4' := Lib.hid (below_up HB3'.out hb4 (Nat.le_refl _)); have HB4 := Lib.hid (below_up HB0.out HB4'.out (Nat.le_refl _)); have HP2 := Lib.hid (HPR.out.below HB4'.out); have r0 := HP2.out.c0; have r1 := HP2.out.c1; have rf0 := HP2.out.f0; have rf1 := HP2.out.f1; clear hb4)
        | (go_at_call 18; refine (span_any _ _ _ _ ms _ _ _ z HSM.out (HS.out.below HB2.out) hlc hcc HCX.out (HZ.out.below HB2.out)).mono ?_; rw [HP.out]; rintro e w3 ⟨rfl, hb3⟩; have HB3x := Lib.hid hb3; have HB3' := Lib.hid (below_up HB2.out hb3 (Nat.le_refl _)); clear hb3)
        | (go_at_call 12; refine (solP_any _ _ _ _ ms _ _ _ vs (lc : Int) HSM.out HS.out hl hcb HCM.out HV.out (by omega) (by omega)).mono ?_; rintro e w2 ⟨a2, l2, c2, he2, ho2, hb2⟩; rw [HY.out] at he2; subst he2; rw [← HXS.out] at ho2; have hl2 : lc = l2 := hxl.symm.trans ho2.1; subst hl2; have HX2 := Lib.hid ho2.sees; have HB2 := Lib.hid hb2; clear hb2 ho2))
      refine bodyPost_ret (v := .tuple #[.agg #[.int .i64 x, .int .i64 y], .bool o]) (by simp [results, Try.results16, go_sem, r0, r1]) rfl ⟨by rw [HXN.out, HYN.out, HON.out], below_put HB4.out (Nat.le_refl _) _ _⟩
end Go.Proofs.Ytgcgdgbogamlnaa
