/- Where a path leads: the model's and the program's. -/
import Derived.Test.YtbjjgcfmdlinaaaNetV
import Derived.Test.YtbjjgcfmdlinaaaPair
import Derived.Deep.RegionHeld3
namespace Go.Proofs.Ytbjjgcfmdlinaaa
open Go.RowKit
def endV (ls : List (Int × Int)) (p : List Int) (v : Int) : Int := (endO ls p v).getD (-1)
theorem endV_nil (ls : List (Int × Int)) (v : Int) : endV ls [] v = v := rfl
theorem drop_at {p : List Int} {k : Nat} (h : k < p.length) : p.drop k = p.getD k 0 :: p.drop (k + 1) := by
  rw [List.drop_eq_getElem_cons h]
  simp [List.getD, h]
theorem endV_stop {ls : List (Int × Int)} {p : List Int} {k : Nat} {v : Int} (h : k < p.length) (hs : stepN ls (p.getD k 0) v = none) : endV ls (p.drop k) v = -1 := by
  rw [drop_at h]
  simp only [endV, endO, hs]
  rfl
theorem endV_go {ls : List (Int × Int)} {p : List Int} {k : Nat} {v w : Int} (h : k < p.length) (hs : stepN ls (p.getD k 0) v = some w) : endV ls (p.drop k) v = endV ls (p.drop (k + 1)) w := by
  rw [drop_at h]
  simp only [endV, endO, hs]
  rfl
theorem step_out {ls : List (Int × Int)} {i v : Int} (h : inR i 0 ((ls.length : Int) - 1) = false) : stepN ls i v = none := by
  have := inR_false.1 h
  unfold stepN
  rw [if_neg (by omega)]
theorem step_in {ls : List (Int × Int)} {m : Nat} {v : Int} (h : m < ls.length) : stepN ls (m : Int) v = other (ls.getD m (0, 0)) v := by
  unfold stepN
  rw [if_pos (by omega), Int.toNat_natCast]
set_option maxRecDepth 20000 in
set_option maxHeartbeats 1600000 in
theorem specEnd_any (W : World) (n : Int) (a : Option Addr) (len cap : Nat) (ls : List (Int × Int)) (b : Option Addr) (lp cp : Nat) (p : List Int) (v0 : Int) (hl : len ≤ 1073741824) (hs : SeesL W a len ls) (hlp : lp ≤ 1073741824) (hp : Sees .i64 W b lp p) :
    Calls Try.prog 89 #[.agg #[.int .i64 n, .slice a len cap], .slice b lp cp, .int .i64 v0] W fun e w' => e = .returned (.int .i64 (endV ls p v0)) ∧ Below W.heap.size W w' := by
  have HL := Lib.hid hs.1
  have HPL := Lib.hid hp.1
  obtain ⟨V, hV⟩ : ∃ V, V = W.alloc (.cells #[.int .i64 n, .slice a len cap] 26) := ⟨_, rfl⟩
  have HBV : Hid (Below W.heap.size W V) := Lib.hid (by rw [hV]; exact below_new _ _)
  have HN := Lib.hid (show NetAt V W.heap.size n a len cap by rw [hV]; exact net_new _ _ _ _ _ _)
  have HS := Lib.hid (hs.below HBV.out)
  have HP := Lib.hid (hp.below HBV.out)
  clear hs hp
  obtain ⟨v, hv⟩ : ∃ v : Int, v = endV ls p v0 := ⟨_, rfl⟩
  rw [← hv]
  have HV := Lib.hid hv
  clear hv
  go_enter Try.func89, Try.ntmps89
  go_wp2_with fail
  rw [← hV]
  clear hV
  go_loopw [8, 7, 9] (fun i u _ wr => ∃ (k : Nat) (x : Int), k ≤ lp ∧ i = .int .i64 k ∧ u = .int .i64 x ∧ Hid (v = endV ls (p.drop k) x) ∧ Below V.heap.size V wr) (fun i _ _ _ => lp - (intOf i).toNat)
  case atStart => exact ⟨0, v0, Nat.zero_le _, rfl, rfl, Lib.hid HV.out, Below.refl _ _⟩
  case round =>
    obtain ⟨k, x, hk, rfl, rfl, HE, hb⟩ := hrel
    have HB := Lib.hid hb
    have HNW := Lib.hid (HN.out.below hb)
    have HSW := Lib.hid (HS.out.below hb)
    have HPW := Lib.hid (HP.out.below hb)
    have c1 := HNW.out.c1
    clear hb
    by_cases hlt : k < lp
    · rcases HPW.out.2.2 with h0 | ⟨b1, o1, rfl, hb1, hc1⟩
      · omega
      have hx := hc1 k hlt
      have hkp : k < p.length := by rw [HPL.out]; exact hlt
      have i0k : (0 : Int) ≤ (k : Int) := by omega
      have i1k : (k : Int) < (lp : Int) := by omega
      have hwr : IntKind.i64.wrap ((len : Int) - 1) = (len : Int) - 1 := IntWalk.i64_in _ (by omega)
      obtain ⟨y, hy⟩ : ∃ y, p.getD k 0 = y := ⟨_, rfl⟩
      rw [hy] at hx
      have HYV := Lib.hid hy
      clear hc1 hy
      cases hin : inR y 0 ((len : Int) - 1)
      · have HX : Hid (v = -1) := Lib.hid (by rw [HE.out]; exact endV_stop hkp (step_out (by rw [HYV.out, HL.out]; exact hin)))
        have HIN := Lib.hid hin
        clear hin
        go_wp2_with fail
        go_region_held3 (fun w' => w'.cell? ⟨b1, o1 + k, none⟩ = some (.int .i64 y) ∧ w'.cell? ⟨W.heap.size, 1, none⟩ = some (.slice a len cap)) (go_keep) (first
          | (go_at_call 41; refine (l1In_any _ _ _ _).mono ?_; (first | rw [HIN.out] | rw [hwr, HIN.out]); rintro e w' ⟨rfl, rfl⟩))
        all_goals go_wp2
        all_goals go_ret
        all_goals exact ⟨ret_int HX.out.symm, HBV.out.trans (HB.out.drew.mono HBV.out.size)⟩
      · have hyb := inR_true.1 hin
        obtain ⟨m, rfl⟩ : ∃ m : Nat, y = m := ⟨y.toNat, by omega⟩
        have hm : m < len := by omega
        obtain ⟨b2, o2, rfl, hb2, hx0, hx1, _, _⟩ := HSW.out.spot hm
        obtain ⟨s, t, hcd⟩ : ∃ s t, ls.getD m (0, 0) = (s, t) := ⟨_, _, rfl⟩
        rw [hcd] at hx0 hx1
        have HST : Hid (stepN ls (p.getD k 0) x = other (s, t) x) := Lib.hid (by rw [HYV.out, step_in (by rw [HL.out]; exact hm), hcd])
        have HIN := Lib.hid hin
        have i0m : (0 : Int) ≤ (m : Int) := by omega
        have i1m : (m : Int) < (len : Int) := by omega
        clear hin hcd hyb
        obtain ⟨r, hr⟩ : ∃ r, other (s, t) x = r := ⟨_, rfl⟩
        have HR := Lib.hid hr
        have HSR : Hid (stepN ls (p.getD k 0) x = r) := Lib.hid (by rw [HST.out]; exact hr)
        clear hr
        go_wp2_with fail
        go_region_held3 (fun w' => w'.cell? ⟨b1, o1 + k, none⟩ = some (.int .i64 (m : Int)) ∧ w'.cell? ⟨W.heap.size, 1, none⟩ = some (.slice (some ⟨b2, o2, none⟩) len cap)) (go_keep) (first
          | (go_at_call 41; refine (l1In_any _ _ _ _).mono ?_; (first | rw [HIN.out] | rw [hwr, HIN.out]); rintro e w' ⟨rfl, rfl⟩))
        go_wp2_with fail
        have hx : wr.drew.cell? ⟨b1, o1 + k, none⟩ = some (.int .i64 (m : Int)) := hx
        have n1 := World.new_ne wr.drew _ hx
        have n2 := World.new_ne wr.drew _ c1
        have n3 := World.new_ne wr.drew _ hx0
        go_region_held3 (fun w' => w'.cell? ⟨b1, o1 + k, none⟩ = some (.int .i64 (m : Int)) ∧ w'.cell? ⟨W.heap.size, 1, none⟩ = some (.slice (some ⟨b2, o2, none⟩) len cap) ∧ w'.cell? ⟨b2, o2 + m * 2, none⟩ = some (.int .i64 s) ∧ w'.cell? ⟨b2, o2 + m * 2 + 1, none⟩ = some (.int .i64 t)) (go_keep) (fail)
        have HBD := Lib.hid (HB.out.drew)
        by_cases h1 : x = s
        · subst h1
          have hr : r = some t := by rw [← HR.out]; simp [other]
          subst hr
          have HX : Hid (v = endV ls (p.drop (k + 1)) t) := Lib.hid (by rw [HE.out]; exact endV_go hkp HSR.out)
          go_wp2
          go_roundw
          case rel => exact ⟨k + 1, t, by omega, by go_num, rfl, HX, (HBD.out.drew.alloc HBD.out.size _)⟩
          case measure => simp [intOf]; omega
        · by_cases h2 : x = t
          · subst h2
            have hr : r = some s := by rw [← HR.out]; simp [other, h1]
            subst hr
            have HX : Hid (v = endV ls (p.drop (k + 1)) s) := Lib.hid (by rw [HE.out]; exact endV_go hkp HSR.out)
            go_wp2
            go_roundw
            case rel => exact ⟨k + 1, s, by omega, by go_num, rfl, HX, (HBD.out.drew.alloc HBD.out.size _)⟩
            case measure => simp [intOf]; omega
          · have hr : r = none := by rw [← HR.out]; simp [other, h1, h2]
            subst hr
            have HX : Hid (v = -1) := Lib.hid (by rw [HE.out]; exact endV_stop hkp HSR.out)
            go_wp2
            go_ret
            exact ⟨ret_int HX.out.symm, HBV.out.trans ((HBD.out.drew.alloc HBD.out.size _).mono HBV.out.size)⟩
    · obtain rfl : k = lp := by omega
      have HX : Hid (v = x) := Lib.hid (by rw [HE.out, List.drop_eq_nil_of_le (by rw [HPL.out]; exact Nat.le_refl _)]; rfl)
      go_wp2
      go_ret
      exact ⟨ret_int HX.out.symm, HBV.out.trans (HB.out.mono HBV.out.size)⟩
end Go.Proofs.Ytbjjgcfmdlinaaa
