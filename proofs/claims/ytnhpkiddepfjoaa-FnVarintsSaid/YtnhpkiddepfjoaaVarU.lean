/- The walk of the law on varints. -/
import Derived.Test.YtnhpkiddepfjoaaDraw2
import Derived.Test.YtnhpkiddepfjoaaSame
import Derived.Test.YtnhpkiddepfjoaaLawR
import Derived.Test.YtnhpkiddepfjoaaEncI
import Derived.Test.YtnhpkiddepfjoaaReadB
import Derived.Deep.RegionHeld3
namespace Go.Proofs.Ytnhpkiddepfjoaa
open Go.RowKit
theorem sees_cut0 {k : IntKind} {w : World} {b len : Nat} {zs : List Int} (h : Sees k w (some ⟨b, 0, none⟩) len zs) (q n : Nat) (hq : q + n ≤ len) : Sees k w (some ⟨b, q, none⟩) n ((zs.drop q).take n) := by
  have g := sees_cut h q n hq
  rwa [Nat.zero_add] at g
theorem rd_end (zs : List Int) : rd zs zs.length = none := reading_end (reading_start (by omega) (Int.le_refl _)) (.inr (by omega))
set_option maxHeartbeats 4000000 in
set_option maxRecDepth 20000 in
theorem lawVar_small (W : World) (a : Option Addr) (len cap : Nat) (hl : len ≤ 1048576) (hk : CodeAt W W.heap.size a len) : Calls Try.prog 3 #[.slice a len cap] W (RetTrue W) := by
  have HK := Lib.hid hk
  clear hk
  go_enter Try.func3, Try.ntmps3
  go_wp2_with (go_at_call 12; refine (big_no _ a len cap hl).mono ?_; rintro e w0 ⟨rfl, rfl⟩)
  go_at_call 13
  refine (drawAppendU_any _ a len cap hl HK.out).mono ?_
  rintro e w1 ⟨zs, a1, l1, c1, n, hl1, ⟨hn0, hn1⟩, rfl, ho1, hb1⟩
  have HO1 := Lib.hid ho1
  have HB1 := Lib.hid hb1
  clear ho1 hb1
  go_wp2_with fail
  go_at_call 14
  refine (append_any _ _ _ _ zs n (by omega) HO1.out.sees).mono ?_
  rintro e w2 ⟨a2, l2, c2, rfl, ho2, hb2⟩
  have hl2 : l2 ≤ 8 := by have := ho2.1; have := encTo_len zs n; have := HO1.out.1; omega
  have HO2 := Lib.hid ho2
  have HP2 := Lib.hid (HO1.out.below hb2)
  have HB2 := Lib.hid (below_up HB1.out hb2 (Nat.le_refl _))
  clear ho2 hb2
  go_wp2_with fail
  go_at_call 15
  by_cases hu : inU n
  · have hr : rd (encTo zs n) l1 = some (n, (l2 : Int)) := by
      have h := rd_encTo zs [] n hu
      rw [List.append_nil, ← encTo_in hu] at h
      have e1 := HO1.out.1
      have e2 := HO2.out.1
      rw [encTo_in hu, List.length_append, e1] at e2
      rw [e1, e2] at h
      exact h
    have HR := Lib.hid hr
    unfold inU at hu
    obtain ⟨hu0, hu1⟩ := hu
    clear hr
    refine (read_yes _ _ _ _ (encTo zs n) l1 _ _ (by omega) HO2.out.room (by omega) (by omega) HR.out HO2.out.sees).mono ?_
    rintro e w3 ⟨rfl, hb3⟩
    have HBa := Lib.hid (below_up HB2.out hb3 (Nat.le_refl _))
    clear hb3
    go_wp2_with fail
    go_at_call 17
    refine (drawReadU_any _ a len cap hl ((HK.out.below HBa.out).mono HBa.out.size)).mono ?_
    rintro e wb ⟨ys, ab, lb, cb, o, hlb, ⟨ho0, ho1⟩, rfl, hob, hbb⟩
    have HOb := Lib.hid hob
    have HBb := Lib.hid (below_up HBa.out hbb (Nat.le_refl _))
    clear hob hbb
    go_wp2_with fail
    go_at_call 15
    rcases hr2 : rd ys o with _ | ⟨m, q⟩
    · have HR2 := Lib.hid hr2
      clear hr2
      refine (read_no _ _ _ _ ys o (by omega) HOb.out.room ho0 ho1 HR2.out HOb.out.sees).mono ?_
      rintro e wc ⟨rfl, hbc⟩
      have HOc := Lib.hid (HOb.out.below hbc)
      have HBc := Lib.hid (below_up HBb.out hbc (Nat.le_refl _))
      clear hbc
      go_wp2_with fail
      go_at_call 18
      refine (specRead_no _ _ _ _ ys o (by omega) ho0 ho1 HR2.out HOc.out.sees).mono ?_
      rintro e wd ⟨rfl, hbd⟩
      have HBd := Lib.hid (below_up HBc.out hbd (Nat.le_refl _))
      clear hbd
      go_wp2_with fail
      go_ret
      exact ⟨rfl, HBd.out⟩
    · have HR2 := Lib.hid hr2
      obtain ⟨g0, g1, g2, g3, g4, g5⟩ := rd_some (fun x hx => bounds_u8 (HOb.out.2.1 x hx)) hr2
      rw [HOb.out.1] at g2
      have HU := Lib.hid g4
      have HE := Lib.hid g5
      clear hr2 g4 g5
      refine (read_yes _ _ _ _ ys o _ _ (by omega) HOb.out.room ho0 ho1 HR2.out HOb.out.sees).mono ?_
      rintro e wc ⟨rfl, hbc⟩
      have HOc := Lib.hid (HOb.out.below hbc)
      have HBc := Lib.hid (below_up HBb.out hbc (Nat.le_refl _))
      clear hbc
      obtain ⟨p, rfl⟩ : ∃ p : Nat, o = p := ⟨o.toNat, by omega⟩
      obtain ⟨r, rfl⟩ : ∃ r : Nat, q = r := ⟨q.toNat, by omega⟩
      have hpr : p < r := by omega
      have hrl : r ≤ lb := by omega
      have e1 : ((r : Int) - (p : Int)).toNat = r - p := by omega
      have e2 : ((p : Int)).toNat = p := by omega
      rw [e1, e2] at HE
      clear e1 e2 g0 g1 g2 g3 ho0 ho1
      rcases HOc.out.spot with ⟨_, hx, _⟩ | ⟨g, rfl, _, _, hroom, _, _, _⟩
      · omega
      · have HLE : Hid ((encTo [] m).length = r - p) := Lib.hid (by rw [encTo_in HU.out, List.nil_append, ← HE.out, List.length_take, List.length_drop, HOc.out.1]; omega)
        have HLL : Hid (encTo [] m = (ys.drop p).take (r - p)) := Lib.hid (by rw [encTo_in HU.out, List.nil_append, ← HE.out])
        have hp0 : (0 : Int) ≤ (p : Int) := Int.natCast_nonneg _
        have hpr1 : (p : Int) < (r : Int) := by omega
        have hrl1 : (r : Int) ≤ (lb : Int) := by omega
        have hrc1 : (r : Int) ≤ (cb : Int) := by omega
        have hpr2 : (p : Int) ≤ (r : Int) := by omega
        have hpc : ¬ cb = p := by omega
        go_wp2_with fail
        go_region_held3 (fun w' => True) (trivial) (first | (go_at_call 14; refine (append_any _ _ _ _ [] m (by decide) (sees_nil' _ _ _ rfl)).mono ?_; rintro e we ⟨ae, le, ce, rfl, hoe, hbe⟩; have hle : le = r - p := hoe.1.symm.trans HLE.out; subst hle; have HOe := Lib.hid hoe; have HBe := Lib.hid (below_up (HBc.out.drew.alloc HBc.out.drew.size _) hbe (Nat.le_refl _)); have HYe := Lib.hid (((HOc.out.sees.below ((Below.refl _ _).drew)).alloc _).below hbe); clear hoe hbe) | (go_at_call 16; refine (sameB_yes _ _ _ _ _ _ (encTo [] m) (by omega) HOe.out.sees (HLL.out ▸ sees_cut0 HYe.out p (r - p) (by omega))).mono ?_; rintro e wf ⟨rfl, hbf⟩; have HBf := Lib.hid (below_up HBe.out hbf (Nat.le_refl _)); clear hbf))
        go_wp2_with fail
        go_ret
        exact ⟨rfl, HBf.out⟩
  · have hr : rd (encTo zs n) l1 = none := by
      rw [encTo_out hu, ← HO1.out.1]
      exact rd_end zs
    have HR := Lib.hid hr
    have HZ := Lib.hid (encTo_out (zs := zs) hu)
    have hd : n < 0 ∨ 1000000000000 < n := by unfold inU at hu; omega
    clear hr hu
    refine (read_no _ _ _ _ (encTo zs n) l1 (by omega) HO2.out.room (by omega) (by omega) HR.out HO2.out.sees).mono ?_
    rintro e w3 ⟨rfl, hb3⟩
    have HO3 := Lib.hid (HO2.out.below hb3)
    have HP3 := Lib.hid (HP2.out.below hb3)
    have HB3 := Lib.hid (below_up HB2.out hb3 (Nat.le_refl _))
    have hlen : l1 = l2 := by have h1 := HO1.out.1; have h2 := HO2.out.1; rw [HZ.out] at h2; omega
    rw [HZ.out] at HO3
    clear hb3
    subst hlen
    rcases hd with hd | hd
    all_goals
      go_wp2_with fail
      go_at_call 16
      refine (sameB_yes _ _ _ _ _ _ zs (by omega) HO3.out.sees HP3.out.sees).mono ?_
      rintro e w4 ⟨rfl, hb4⟩
      have HBa := Lib.hid (below_up HB3.out hb4 (Nat.le_refl _))
      clear hb4
      go_wp2_with fail
      go_at_call 17
      refine (drawReadU_any _ a len cap hl ((HK.out.below HBa.out).mono HBa.out.size)).mono ?_
      rintro e wb ⟨ys, ab, lb, cb, o, hlb, ⟨ho0, ho1⟩, rfl, hob, hbb⟩
      have HOb := Lib.hid hob
      have HBb := Lib.hid (below_up HBa.out hbb (Nat.le_refl _))
      clear hob hbb
      go_wp2_with fail
      go_at_call 15
      rcases hr2 : rd ys o with _ | ⟨m, q⟩
      · have HR2 := Lib.hid hr2
        clear hr2
        refine (read_no _ _ _ _ ys o (by omega) HOb.out.room ho0 ho1 HR2.out HOb.out.sees).mono ?_
        rintro e wc ⟨rfl, hbc⟩
        have HOc := Lib.hid (HOb.out.below hbc)
        have HBc := Lib.hid (below_up HBb.out hbc (Nat.le_refl _))
        clear hbc
        go_wp2_with fail
        go_at_call 18
        refine (specRead_no _ _ _ _ ys o (by omega) ho0 ho1 HR2.out HOc.out.sees).mono ?_
        rintro e wd ⟨rfl, hbd⟩
        have HBd := Lib.hid (below_up HBc.out hbd (Nat.le_refl _))
        clear hbd
        go_wp2_with fail
        go_ret
        exact ⟨rfl, HBd.out⟩
      · have HR2 := Lib.hid hr2
        obtain ⟨g0, g1, g2, g3, g4, g5⟩ := rd_some (fun x hx => bounds_u8 (HOb.out.2.1 x hx)) hr2
        rw [HOb.out.1] at g2
        have HU := Lib.hid g4
        have HE := Lib.hid g5
        clear hr2 g4 g5
        refine (read_yes _ _ _ _ ys o _ _ (by omega) HOb.out.room ho0 ho1 HR2.out HOb.out.sees).mono ?_
        rintro e wc ⟨rfl, hbc⟩
        have HOc := Lib.hid (HOb.out.below hbc)
        have HBc := Lib.hid (below_up HBb.out hbc (Nat.le_refl _))
        clear hbc
        obtain ⟨p, rfl⟩ : ∃ p : Nat, o = p := ⟨o.toNat, by omega⟩
        obtain ⟨r, rfl⟩ : ∃ r : Nat, q = r := ⟨q.toNat, by omega⟩
        have hpr : p < r := by omega
        have hrl : r ≤ lb := by omega
        have e1 : ((r : Int) - (p : Int)).toNat = r - p := by omega
        have e2 : ((p : Int)).toNat = p := by omega
        rw [e1, e2] at HE
        clear e1 e2 g0 g1 g2 g3 ho0 ho1
        rcases HOc.out.spot with ⟨_, hx, _⟩ | ⟨g, rfl, _, _, hroom, _, _, _⟩
        · omega
        · have HLE : Hid ((encTo [] m).length = r - p) := Lib.hid (by rw [encTo_in HU.out, List.nil_append, ← HE.out, List.length_take, List.length_drop, HOc.out.1]; omega)
          have HLL : Hid (encTo [] m = (ys.drop p).take (r - p)) := Lib.hid (by rw [encTo_in HU.out, List.nil_append, ← HE.out])
          have hp0 : (0 : Int) ≤ (p : Int) := Int.natCast_nonneg _
          have hpr1 : (p : Int) < (r : Int) := by omega
          have hrl1 : (r : Int) ≤ (lb : Int) := by omega
          have hrc1 : (r : Int) ≤ (cb : Int) := by omega
          have hpr2 : (p : Int) ≤ (r : Int) := by omega
          have hpc : ¬ cb = p := by omega
          go_wp2_with fail
          go_region_held3 (fun w' => True) (trivial) (first | (go_at_call 14; refine (append_any _ _ _ _ [] m (by decide) (sees_nil' _ _ _ rfl)).mono ?_; rintro e we ⟨ae, le, ce, rfl, hoe, hbe⟩; have hle : le = r - p := hoe.1.symm.trans HLE.out; subst hle; have HOe := Lib.hid hoe; have HBe := Lib.hid (below_up (HBc.out.drew.alloc HBc.out.drew.size _) hbe (Nat.le_refl _)); have HYe := Lib.hid (((HOc.out.sees.below ((Below.refl _ _).drew)).alloc _).below hbe); clear hoe hbe) | (go_at_call 16; refine (sameB_yes _ _ _ _ _ _ (encTo [] m) (by omega) HOe.out.sees (HLL.out ▸ sees_cut0 HYe.out p (r - p) (by omega))).mono ?_; rintro e wf ⟨rfl, hbf⟩; have HBf := Lib.hid (below_up HBe.out hbf (Nat.le_refl _)); clear hbf))
          go_wp2_with fail
          go_ret
          exact ⟨rfl, HBf.out⟩
theorem lawVar_walk (a : Option Addr) (len cap : Nat) (z : List Int) (W : World) (w0 : IsRow .u8 W a len cap z) :
    Calls Try.prog 3 #[.slice a len cap] W (RetTrue W) := by
  by_cases hl : len ≤ 1048576
  · exact lawVar_small W a len cap hl (code_of w0)
  · clear w0
    go_enter Try.func3, Try.ntmps3
    go_wp2_with (go_at_call 12; refine (big_yes _ a len cap hl).mono ?_; rintro e w0 ⟨rfl, rfl⟩)
    go_ret
    exact ⟨rfl, Below.refl _ _⟩
end Go.Proofs.Ytnhpkiddepfjoaa
