/- The walk of the law on the keyed hash. -/
import Derived.Test.YtklookaggnohdaaDraw3
import Derived.Test.YtklookaggnohdaaSame
import Derived.Test.YtklookaggnohdaaHashInj
import Derived.Test.YtklookaggnohdaaDerive
import Derived.Test.YtklookaggnohdaaStepSl
namespace Go.Proofs.Ytklookaggnohdaa
open Go.RowKit
theorem key_yes (n : Int) (w : World) (h0 : 1 ≤ n) (h1 : n ≤ 2147483646) : Calls Try.prog 24 #[.int .i64 n] w fun e w' => e = .returned (.bool true) ∧ w = w' :=
  (key_any n w).mono fun _ _ ⟨he, hw⟩ => ⟨by rw [he, inR_true.2 ⟨h0, h1⟩], hw⟩
theorem word_lo {z x : Int} (h0 : -1 ≤ z) (h1 : 0 ≤ x) : -9223372036854775808 ≤ z + 1 + x := by omega
theorem word_hi {z x : Int} (h0 : z ≤ 2147483648) (h1 : x ≤ 255) : z + 1 + x ≤ 9223372036854775807 := by omega
theorem word_wrap {z x : Int} (h0 : -1 ≤ z) (h1 : z ≤ 2147483648) (h2 : 0 ≤ x) (h3 : x ≤ 255) : IntKind.i64.wrap (z + 1 + x) = z + 1 + x := IntWalk.i64_in _ ⟨word_lo h0 h2, word_hi h1 h3⟩
/-- A hash that differs. -/
def KeyNe (h : Int) (w : World) (e : Ending) (w' : World) : Prop := ∃ x : Int, ¬ x = h ∧ e = .returned (.int .i64 x) ∧ Below w.heap.size w w'
theorem keyedNe_any (W : World) (key : Int) (a : Option Addr) (len cap : Nat) (vs : List Int) (h : Int) (hk0 : -9223372036854775808 ≤ key) (hk1 : key ≤ 9223372036854775807) (hl : len ≤ 1073741800) (hs : Sees .i64 W a len vs) (hne : keyV key vs ≠ h) :
    Calls Try.prog 19 #[.int .i64 key, .slice a len cap] W (KeyNe h W) :=
  (keyed_any W key a len cap vs hk0 hk1 hl hs).mono fun _ _ ⟨he, hb⟩ => ⟨_, hne, he, hb⟩
set_option maxHeartbeats 1000000 in
set_option maxRecDepth 20000 in
theorem lawKeyed_small (W : World) (a : Option Addr) (len cap : Nat) (hl : len ≤ 1048576) (hk : CodeAt W W.heap.size a len) : Calls Try.prog 4 #[.slice a len cap] W (RetTrue W) := by
  have HK := Lib.hid hk
  clear hk
  obtain ⟨i0, hi, hz0, hz1, hz2⟩ := info_parts info_i64
  go_enter Try.func4, Try.ntmps4
  go_wp2_with (go_at_call 13; refine (big_no _ a len cap hl).mono ?_; rintro e w0 ⟨rfl, rfl⟩)
  go_at_call 18
  refine (drawKeyed_any _ a len cap hl HK.out).mono ?_
  rintro e w1 ⟨key, zs, a1, l1, c1, ⟨hk0, hk1⟩, hl1, hin, rfl, ho1, hb1⟩
  have HI := Lib.hid hin
  have HO1 := Lib.hid ho1
  have HB1 := Lib.hid hb1
  have hkw : (Lit.int .i64 key).wf = true := WalkArith.wf_i64 (by omega)
  have HKW := Lib.hid hkw
  clear hkw ho1 hb1 hin
  go_wp2_with fail
  go_at_call 19
  refine (keyed_any _ key _ _ _ zs (by omega) (by omega) (by omega) HO1.out.sees).mono ?_
  rintro e w2 ⟨rfl, hb2⟩
  have HO2 := Lib.hid (HO1.out.below hb2)
  have HB2 := Lib.hid (below_up HB1.out hb2 (Nat.le_refl _))
  have hsz2 := HB2.out.size
  have hw12 : w1.heap.size ≤ w2.heap.size := hb2.size
  have hh := keyV_bd key zs
  obtain ⟨h, hhe⟩ : ∃ h, h = keyV key zs := ⟨_, rfl⟩
  rw [← hhe] at hh ⊢
  have HH := Lib.hid hhe
  have HKV : Hid (hashV ([key] ++ zs ++ [key]) = h) := Lib.hid hhe.symm
  obtain ⟨hh0, hh1⟩ := hh
  have hd1 : decide (h < 0) = false := decide_eq_false (by omega)
  have hd2 : decide (2147483647 ≤ h) = false := decide_eq_false (by omega)
  clear hb2 hhe
  by_cases hpos : 0 < l1
  · go_wp2_with (first
    | (at_builtin; refine wp_append_on (by simp [Region.wanted, yielded]) _ _ 28 rfl 3 i0 .i64 8 Try.underlying28 hi hz0 hz1 hz2 _ _ _ _ rfl _ _ (own_one HKW.out _ w2) _ _ _ _ rfl (HO2.out.sees.alloc _) (by unfold maxLen; omega) (by omega) (by simp) ?_; intro b3 len3 cap3 w3 hlen3 ho3 hm3; have hl3 : len3 ≤ 5 := (by omega); have HO3 := Lib.hid ho3; have HP3 := Lib.hid ((HO2.out.alloc _).moved hm3 (.inl hw12)); have HB3 := Lib.hid (below_moved (HB2.out.alloc hsz2 _) hm3 (Nat.le_refl _) hsz2); have hsz3 := HB3.out.size; have hw23 : w2.heap.size ≤ w3.heap.size := (by have := hm3.size; simp at this; omega); clear ho3 hm3 hlen3)
    | (at_builtin; refine wp_append_on (by simp [Region.wanted, yielded]) _ _ 28 rfl 3 i0 .i64 8 Try.underlying28 hi hz0 hz1 hz2 _ _ _ _ rfl _ _ (HO3.out.alloc _) _ _ _ _ rfl (sees_one HKW.out w3 _) (by unfold maxLen; omega) (by omega) (by simp; omega) ?_; intro b4 len4 cap4 w4 hlen4 ho4 hm4; have hl4 : len4 ≤ 6 := (by omega); have HO4 := Lib.hid ho4; have HP4 := Lib.hid ((HP3.out.alloc _).moved hm4 (.inl hw12)); have HB4 := Lib.hid (below_moved (HB3.out.alloc hsz3 _) hm4 (Nat.le_refl _) (by omega)); have hsz4 := HB4.out.size; clear ho4 hm4 hlen4)
    | (go_at_call 20; refine (hash_any _ _ _ _ ([key] ++ zs ++ [key]) (by omega) HO4.out.sees).mono ?_; rintro e w' ⟨rfl, rfl⟩; rw [HKV.out])
    | (at_builtin; refine wp_append_on (by simp [Region.wanted]) _ _ 28 rfl 3 i0 .i64 8 Try.underlying28 hi hz0 hz1 hz2 _ _ _ _ rfl _ _ (own_nil _ _ w4) _ _ _ _ rfl (HP4.out.sees.alloc _) (by unfold maxLen; omega) (by omega) (by simp) ?_; intro b5 len5 cap5 w5 hlen5 ho5 hm5; clear hlen5; have hl5 : l1 = len5 := (HO1.out.1.symm.trans ho5.1); subst hl5; have HO5 : Hid (Own .i64 3 w5 w4.heap.size w5.heap.size b5 l1 cap5 zs) := Lib.hid ho5; have HB5 := Lib.hid (below_moved (HB4.out.alloc hsz4 _) hm5 (Nat.le_refl _) hsz4); clear ho5 hm5))
    go_at_call 21
    refine (at_any _ _ a len cap 0 hl (by decide) (by decide) (HK.out.below HB5.out)).mono ?_
    rintro e w' ⟨x0, ⟨hx00, hx01⟩, rfl, rfl⟩
    obtain ⟨q, hq⟩ : ∃ q : Nat, x0 % (l1 : Int) = (q : Int) := ⟨(x0 % (l1 : Int)).toNat, by have := Int.emod_nonneg x0 (show (l1 : Int) ≠ 0 by omega); omega⟩
    have hql : q < l1 := by have := Int.emod_lt_of_pos x0 (show (0 : Int) < (l1 : Int) by omega); omega
    have hm0 := HO5.out
    rcases hm0.spot with ⟨_, h0, _⟩ | ⟨g, rfl, hg1, hg2, _, _, hcs, hfz⟩
    · omega
    · have hcd := hcs q hql
      have hfd := hfz q
      have hql2 : q < zs.length := by rw [hm0.1]; exact hql
      have hzw := HI.out _ (getD_mem hql2)
      obtain ⟨z, hze⟩ : ∃ z, z = zs.getD q 0 := ⟨_, rfl⟩
      rw [← hze] at hcd hzw
      have HZE := Lib.hid hze
      have HQL := Lib.hid hql2
      obtain ⟨hzw0, hzw1⟩ := hzw
      have hq0 : (0 : Int) ≤ (q : Int) := by omega
      have hq1 : (q : Int) < (l1 : Int) := by omega
      clear hcs hfz hm0 hze hql2
      go_wp2_with fail
      have hs0 : IntKind.i64.wrap (z + 1) = z + 1 := IntWalk.i64_in _ (by omega)
      rw [hq]
      clear hq
      go_region_with (first | (go_at_call 21; refine (at_any _ _ a len cap 1 hl (by decide) (by decide) (HK.out.below HB5.out.drew)).mono ?_; rintro e w' ⟨x1, ⟨hx10, hx11⟩, rfl, rfl⟩; have hs1 : IntKind.i64.wrap (z + 1 + x1) = z + 1 + x1 := (word_wrap hzw0 hzw1 hx10 hx11)) | (go_at_call 22; (with_reducible refine (specModP_any (z + 1 + x1) _ (word_lo hzw0 hx10) (word_hi hzw1 hx11)).mono ?_); rintro e w' ⟨y, hy, ⟨hy0, hy1⟩, rfl, rfl⟩; have HY := Lib.hid hy; clear hy))
      all_goals
        have hst := (HO5.out.below (Below.refl _ _).drew).stored q y (WalkArith.wf_i64 (by omega))
        have HO6 := Lib.hid hst.1
        have HB6 := Lib.hid (below_moved HB5.out.drew hst.2 (Nat.le_refl _) hsz4)
        have HNE : Hid (keyV key (zs.set q y) ≠ h) := Lib.hid (by rw [HH.out]; refine keyV_set HQL.out ?_; have hz := HZE.out; have hyy := HY.out; rw [← hz]; omega)
        clear hst
        go_wp2_with fail
        go_at_call 19
        refine (keyedNe_any _ key _ _ _ (zs.set q y) h (by omega) (by omega) (by omega) HO6.out.sees HNE.out).mono ?_
        rintro e w7 ⟨h2, hne, rfl, hb7⟩
        have HB7 := Lib.hid (below_up HB6.out hb7 (Nat.le_refl _))
        clear hb7
        go_wp2_with fail
        go_at_call 23
        refine (drawDerive_any _ a len cap hl ((HK.out.below HB7.out).mono HB7.out.size)).mono ?_
        rintro e wa ⟨k2, s, ⟨hk20, hk21⟩, hs, rfl, hba⟩
        have HBa := Lib.hid (below_up HB7.out hba (Nat.le_refl _))
        clear hba
        go_wp2_with fail
        go_at_call 25
        refine (derive_any _ k2 s (by omega) (by omega) (by omega)).mono ?_
        rintro e wb ⟨rfl, hbb⟩
        have hdv := derV_bd k2 s
        obtain ⟨hdv0, hdv1⟩ := hdv
        have HBb := Lib.hid (below_up HBa.out hbb (Nat.le_refl _))
        clear hbb
        go_wp2_with (go_at_call 24; refine (key_yes _ _ hdv0 hdv1).mono ?_; rintro e w' ⟨rfl, rfl⟩)
        go_ret
        exact ⟨rfl, HBb.out⟩
  · go_wp2_with (first
    | (at_builtin; refine wp_append_on (by simp [Region.wanted, yielded]) _ _ 28 rfl 3 i0 .i64 8 Try.underlying28 hi hz0 hz1 hz2 _ _ _ _ rfl _ _ (own_one HKW.out _ w2) _ _ _ _ rfl (HO2.out.sees.alloc _) (by unfold maxLen; omega) (by omega) (by simp) ?_; intro b3 len3 cap3 w3 hlen3 ho3 hm3; have hl3 : len3 ≤ 5 := (by omega); have HO3 := Lib.hid ho3; have HP3 := Lib.hid ((HO2.out.alloc _).moved hm3 (.inl hw12)); have HB3 := Lib.hid (below_moved (HB2.out.alloc hsz2 _) hm3 (Nat.le_refl _) hsz2); have hsz3 := HB3.out.size; have hw23 : w2.heap.size ≤ w3.heap.size := (by have := hm3.size; simp at this; omega); clear ho3 hm3 hlen3)
    | (at_builtin; refine wp_append_on (by simp [Region.wanted, yielded]) _ _ 28 rfl 3 i0 .i64 8 Try.underlying28 hi hz0 hz1 hz2 _ _ _ _ rfl _ _ (HO3.out.alloc _) _ _ _ _ rfl (sees_one HKW.out w3 _) (by unfold maxLen; omega) (by omega) (by simp; omega) ?_; intro b4 len4 cap4 w4 hlen4 ho4 hm4; have hl4 : len4 ≤ 6 := (by omega); have HO4 := Lib.hid ho4; have HP4 := Lib.hid ((HP3.out.alloc _).moved hm4 (.inl hw12)); have HB4 := Lib.hid (below_moved (HB3.out.alloc hsz3 _) hm4 (Nat.le_refl _) (by omega)); have hsz4 := HB4.out.size; clear ho4 hm4 hlen4)
    | (go_at_call 20; refine (hash_any _ _ _ _ ([key] ++ zs ++ [key]) (by omega) HO4.out.sees).mono ?_; rintro e w' ⟨rfl, rfl⟩; rw [HKV.out]))
    go_wp2_with fail
    go_at_call 23
    refine (drawDerive_any _ a len cap hl ((HK.out.below HB4.out).mono HB4.out.size)).mono ?_
    rintro e wa ⟨k2, s, ⟨hk20, hk21⟩, hs, rfl, hba⟩
    have HBa := Lib.hid (below_up HB4.out hba (Nat.le_refl _))
    clear hba
    go_wp2_with fail
    go_at_call 25
    refine (derive_any _ k2 s (by omega) (by omega) (by omega)).mono ?_
    rintro e wb ⟨rfl, hbb⟩
    have hdv := derV_bd k2 s
    obtain ⟨hdv0, hdv1⟩ := hdv
    have HBb := Lib.hid (below_up HBa.out hbb (Nat.le_refl _))
    clear hbb
    go_wp2_with (go_at_call 24; refine (key_yes _ _ hdv0 hdv1).mono ?_; rintro e w' ⟨rfl, rfl⟩)
    go_ret
    exact ⟨rfl, HBb.out⟩
theorem lawKeyed_walk (a : Option Addr) (len cap : Nat) (z : List Int) (W : World) (w0 : IsRow .u8 W a len cap z) :
    Calls Try.prog 4 #[.slice a len cap] W (RetTrue W) := by
  by_cases hl : len ≤ 1048576
  · exact lawKeyed_small W a len cap hl (code_of w0)
  · clear w0
    go_enter Try.func4, Try.ntmps4
    go_wp2_with (go_at_call 13; refine (big_yes _ a len cap hl).mono ?_; rintro e w0 ⟨rfl, rfl⟩)
    go_ret
    exact ⟨rfl, Below.refl _ _⟩
end Go.Proofs.Ytklookaggnohdaa
