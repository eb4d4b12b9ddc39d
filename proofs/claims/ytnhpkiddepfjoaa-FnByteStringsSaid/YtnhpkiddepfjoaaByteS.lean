/- The walk of the law on byte strings and lists of integers. -/
import Derived.Test.YtnhpkiddepfjoaaDraw2
import Derived.Test.YtnhpkiddepfjoaaSame
import Derived.Test.YtnhpkiddepfjoaaLawRB
import Derived.Test.YtnhpkiddepfjoaaLawD
import Derived.Test.YtnhpkiddepfjoaaEncB
import Derived.Test.YtnhpkiddepfjoaaEncL
namespace Go.Proofs.Ytnhpkiddepfjoaa
open Go.RowKit
theorem inU_len {n : Nat} (h : n ≤ 1000000000000) : inU (n : Int) := ⟨by omega, by omega⟩
theorem rd_encBytes (zs ds : List Int) (h : ds.length ≤ 1000000000000) : rd (encBytes zs ds) zs.length = some ((ds.length : Int), ((zs.length + (enc ds.length).length : Nat) : Int)) := by
  have g := rd_encTo zs ds ds.length (inU_len h)
  have e : ((ds.length : Int)).toNat = ds.length := by omega
  rw [e] at g
  unfold encBytes
  rw [encTo_in (inU_len h), e]
  exact g
theorem encBytes_length (zs ds : List Int) (h : ds.length ≤ 1000000000000) : (encBytes zs ds).length = zs.length + (enc ds.length).length + ds.length := by
  have e : ((ds.length : Int)).toNat = ds.length := by omega
  unfold encBytes
  rw [encTo_in (inU_len h), e, List.length_append, List.length_append]
theorem rdB_enc (zs ds : List Int) (h : ds.length ≤ 1000000000000) : rdB (encBytes zs ds) zs.length ds.length = some (ds, ((encBytes zs ds).length : Int)) := by
  have hl := encBytes_length zs ds h
  rw [rdB_some (rd_encBytes zs ds h) (by omega)]
  have e : ((ds.length : Int)).toNat = ds.length := by omega
  have e1 : (((zs.length + (enc ds.length).length : Nat) : Int)).toNat = (zs ++ enc ds.length).length := by
    rw [List.length_append, Int.toNat_natCast]
  have e2 : encBytes zs ds = (zs ++ enc ds.length) ++ ds := by
    unfold encBytes
    rw [encTo_in (inU_len h), e]
  rw [e, e1, e2, List.drop_left, List.take_length]
  congr 2
  simp
  omega
theorem rdB_short (zs ds : List Int) (most : Int) (h : ds.length ≤ 1000000000000) (hm : most < ds.length) : rdB (encBytes zs ds) zs.length most = none := rdB_far (rd_encBytes zs ds h) (.inl hm)
/-- The varints of a list of numbers in range. -/
def flat (vs : List Int) : List Int := (vs.map (fun v => enc v.toNat)).flatten
theorem foldl_encTo : ∀ (vs acc : List Int), (∀ v ∈ vs, inU v) → vs.foldl encTo acc = acc ++ flat vs := by
  intro vs
  induction vs with
  | nil => intro acc _; simp [flat]
  | cons v vs ih =>
    intro acc h
    rw [List.foldl_cons, ih _ (fun x hx => h x (by simp [hx])), encTo_in (h v (by simp))]
    simp [flat]
theorem encAll_flat {vs : List Int} (h : ∀ v ∈ vs, inU v) : encAll vs = flat vs := by
  have := foldl_encTo vs [] h
  simpa [encAll] using this
theorem decN_flat : ∀ (vs pre : List Int), (∀ v ∈ vs, inU v) → decN (pre ++ flat vs) vs.length pre.length = some (vs, ((pre ++ flat vs).length : Int)) := by
  intro vs
  induction vs with
  | nil => intro pre _; simp [decN, flat]
  | cons v vs ih =>
    intro pre h
    have e : pre ++ flat (v :: vs) = pre ++ enc v.toNat ++ flat vs := by simp [flat]
    have g := rd_encTo pre (flat vs) v (h v (by simp))
    have i := ih (pre ++ enc v.toNat) (fun x hx => h x (by simp [hx]))
    rw [List.length_append] at i
    rw [e]
    simp only [List.length_cons, decN, g]
    rw [i]
    rfl
theorem decN_flat_more : ∀ (vs pre : List Int), (∀ v ∈ vs, inU v) → decN (pre ++ flat vs) (vs.length + 1) pre.length = none := by
  intro vs
  induction vs with
  | nil =>
    intro pre _
    have e : pre ++ flat [] = pre := by simp [flat]
    rw [e]
    have g : rd pre pre.length = none := reading_end (reading_start (by omega) (Int.le_refl _)) (.inr (by omega))
    simp only [decN, g]
  | cons v vs ih =>
    intro pre h
    have e : pre ++ flat (v :: vs) = pre ++ enc v.toNat ++ flat vs := by simp [flat]
    have g := rd_encTo pre (flat vs) v (h v (by simp))
    have i := ih (pre ++ enc v.toNat) (fun x hx => h x (by simp [hx]))
    rw [List.length_append] at i
    rw [e, List.length_cons]
    rw [decN, g]
    simp only []
    rw [i]
    rfl
theorem dcI_enc {vs : List Int} (h : ∀ v ∈ vs, inU v) (hl : vs.length ≤ 99) : dcI (encAll vs) 0 vs.length = some (vs, ((encAll vs).length : Int)) ∧ dcI (encAll vs) 0 ((vs.length : Int) + 1) = none := by
  have h0 : inR 0 0 ((encAll vs).length : Int) = true := inR_true.2 (by omega)
  constructor
  · rw [dcI_in (inR_true.2 (by omega)) h0]
    have := decN_flat vs [] h
    rw [List.nil_append, ← encAll_flat h] at this
    have e : ((vs.length : Int)).toNat = vs.length := by omega
    rw [e]
    exact this
  · rw [dcI_in (inR_true.2 (by omega)) h0]
    have := decN_flat_more vs [] h
    rw [List.nil_append, ← encAll_flat h] at this
    have e : ((vs.length : Int) + 1).toNat = vs.length + 1 := by omega
    rw [e]
    exact this
theorem prod_bd {x y z : Int} (hx0 : 0 ≤ x) (hx1 : x ≤ 255) (hy0 : 0 ≤ y) (hy1 : y ≤ 255) (hz0 : 0 ≤ z) (hz1 : z ≤ 255) : 0 ≤ x * y ∧ x * y ≤ 65025 ∧ 0 ≤ x * y * z ∧ x * y * z ≤ 16581375 := by
  have h1 : 0 ≤ x * y := Int.mul_nonneg hx0 hy0
  have h2 : x * y ≤ 255 * 255 := Int.mul_le_mul hx1 hy1 hy0 (by decide)
  have h3 : 0 ≤ x * y * z := Int.mul_nonneg h1 hz0
  have h4 : x * y * z ≤ 65025 * 255 := Int.mul_le_mul (by omega) hz1 hz0 (by decide)
  omega
set_option maxHeartbeats 4000000 in
set_option maxRecDepth 20000 in
theorem lawByteS_small (W : World) (a : Option Addr) (len cap : Nat) (hl : len ≤ 1048576) (hk : CodeAt W W.heap.size a len) : Calls Try.prog 4 #[.slice a len cap] W (RetTrue W) := by
  have HK := Lib.hid hk
  clear hk
  obtain ⟨i0, hi, hz0, hz1, hz2⟩ := info_parts info_i64
  go_enter Try.func4, Try.ntmps4
  go_wp2_with (go_at_call 12; refine (big_no _ a len cap hl).mono ?_; rintro e w0 ⟨rfl, rfl⟩)
  go_at_call 19
  refine (drawAppendB_any _ a len cap hl HK.out).mono ?_
  rintro e w1 ⟨zs, ds, a1, l1, c1, a2, l2, c2, hl1, hl2, rfl, ho1, hp1, hb1⟩
  have HO1 := Lib.hid ho1
  have HP1 := Lib.hid hp1
  have HB1 := Lib.hid hb1
  clear ho1 hp1 hb1
  go_wp2_with fail
  go_at_call 20
  refine (appendBytes_any _ _ _ _ _ _ _ zs ds (by omega) (by omega) HO1.out.sees HP1.out.sees).mono ?_
  rintro e w2 ⟨a3, l3, c3, rfl, ho2, hb2⟩
  have hl3 : l3 ≤ 13 := by have := ho2.1; have := encBytes_len zs ds; have := HO1.out.1; have := HP1.out.1; omega
  have HR : Hid (rdB (encBytes zs ds) l1 l2 = some (ds, (l3 : Int))) := Lib.hid (by rw [← HO1.out.1, ← HP1.out.1, ← ho2.1]; exact rdB_enc zs ds (by rw [HP1.out.1]; omega))
  have HS : Hid (rdB (encBytes zs ds) l1 ((l2 : Int) - 1) = none) := Lib.hid (by rw [← HO1.out.1]; exact rdB_short zs ds _ (by rw [HP1.out.1]; omega) (by rw [HP1.out.1]; omega))
  have HO2 := Lib.hid ho2
  have HP2 := Lib.hid (HP1.out.below hb2)
  have HB2 := Lib.hid (below_up HB1.out hb2 (Nat.le_refl _))
  clear ho2 hb2
  go_wp2_with fail
  go_at_call 21
  refine (readB_yes _ _ _ _ (encBytes zs ds) _ _ _ _ (by omega) HO2.out.room (by omega) (by omega) HR.out HO2.out.sees).mono ?_
  rintro e w3 ⟨a4, l4, c4, rfl, ho3, hb3⟩
  have hl4 : l2 = l4 := HP1.out.1.symm.trans ho3.1
  subst hl4
  have HO3 := Lib.hid ho3
  have HP3 := Lib.hid (HP2.out.below hb3)
  have HX3 := Lib.hid (HO2.out.below hb3)
  have HB3 := Lib.hid (below_up HB2.out hb3 (Nat.le_refl _))
  clear ho3 hb3
  go_wp2_with fail
  go_at_call 21
  refine (readB_no _ _ _ _ (encBytes zs ds) _ _ (by omega) HX3.out.room (by omega) (by omega) HS.out HX3.out.sees).mono ?_
  rintro e w4 ⟨a5, l5, c5, rfl, ho4, hb4⟩
  have HO4 := Lib.hid (HO3.out.below hb4)
  have HP4 := Lib.hid (HP3.out.below hb4)
  have HB4 := Lib.hid (below_up HB3.out hb4 (Nat.le_refl _))
  clear ho4 hb4
  go_wp2_with fail
  go_at_call 16
  refine (sameB_yes _ _ _ _ _ _ ds (by omega) HO4.out.sees HP4.out.sees).mono ?_
  rintro e w5 ⟨rfl, hb5⟩
  have HB5 := Lib.hid (below_up HB4.out hb5 (Nat.le_refl _))
  have hsz5 := HB5.out.size
  clear hb5
  go_wp2_with fail
  go_loopw [12, 13] (fun v i wr => ∃ (kx : Int) (vs : List Int) (a' : Option Addr) (l' c' : Nat), 0 ≤ kx ∧ kx ≤ 5 ∧ l' = kx.toNat ∧ (∀ v ∈ vs, inU v) ∧ i = .int .i64 kx ∧ v = .slice a' l' c' ∧ Own .i64 3 wr W.heap.size wr.heap.size a' l' c' vs ∧ Below W.heap.size W wr) (fun _ i _ => 6 - (intOf i).toNat)
  case atStart => exact ⟨0, [], _, _, _, by omega, by omega, rfl, (fun _ h => by cases h), rfl, rfl, (own_nil _ _ _).wide hsz5 (by simp) (Nat.le_refl _), HB5.out.alloc hsz5 _⟩
  case round =>
    obtain ⟨kx, vs, a', l', c', hk0, hk1, hlk, hin, rfl, rfl, ho, hb⟩ := hrel
    have HO := Lib.hid ho
    have HB := Lib.hid hb
    have HL := Lib.hid hlk
    have HI := Lib.hid hin
    have hl5' : l' ≤ 5 := by omega
    have hsz := hb.size
    clear ho hb hlk hin
    go_wp2_with fail
    go_at_call 22
    refine (at_any _ _ a len cap 0 hl (by decide) (by decide) (HK.out.below HB.out)).mono ?_
    rintro e w' ⟨x, ⟨hx0, hx1⟩, rfl, rfl⟩
    by_cases hlt : kx < x % 6
    · have hk2 : kx ≤ 4 := by omega
      go_wp2_with fail
      go_at_call 22
      refine (at_any _ _ a len cap (kx + 1) hl (by omega) (by omega) (HK.out.below HB.out)).mono ?_
      rintro e w' ⟨x1, ⟨hx10, hx11⟩, rfl, rfl⟩
      go_wp2_with fail
      go_at_call 22
      refine (at_any _ _ a len cap (kx + 2) hl (by omega) (by omega) (HK.out.below HB.out)).mono ?_
      rintro e w' ⟨x2, ⟨hx20, hx21⟩, rfl, rfl⟩
      have hp := prod_bd hx10 hx11 hx20 hx21 hx0 hx1
      obtain ⟨hp0, hp1, _, _⟩ := hp
      go_wp2_with fail
      go_at_call 22
      refine (at_any _ _ a len cap (kx + 3) hl (by omega) (by omega) (HK.out.below HB.out)).mono ?_
      rintro e w' ⟨x3, ⟨hx30, hx31⟩, rfl, rfl⟩
      have hq := prod_bd hx10 hx11 hx20 hx21 hx30 hx31
      obtain ⟨_, _, hq0, hq1⟩ := hq
      go_wp2_with (at_builtin; refine wp_append_sees rfl _ _ 35 rfl 3 i0 .i64 8 Try.underlying35 hi hz0 hz1 hz2 _ _ _ _ rfl _ _ (HO.out.alloc _) _ _ _ _ rfl (sees_one (x := x1 * x2 * x3) (WalkArith.wf_i64 (by omega)) _ _) (by unfold maxLen; omega) (by omega) (by simp; omega) ?_; intro b2 len2 cap2 w2 hlen2 ho2 hm2; have HL2 := Lib.hid hlen2; clear hlen2; have HO2 := Lib.hid ho2; have HM2 := Lib.hid hm2; clear ho2 hm2)
      go_roundw
      case rel =>
        refine ⟨kx + 1, vs ++ [x1 * x2 * x3], _, _, _, by omega, by omega, by have := HL2.out; have := HL.out; omega, ?_, rfl, rfl, HO2.out, below_moved (HB.out.alloc hsz _) HM2.out (Nat.le_refl _) (Nat.le_refl _)⟩
        intro v hv
        rcases List.mem_append.1 hv with hv | hv
        · exact HI.out v hv
        · rw [List.mem_singleton] at hv; rw [hv]; exact ⟨hq0, by omega⟩
      case measure => simp [intOf]; omega
    · have hvl : vs.length ≤ 99 := by have := HO.out.1; omega
      have HD := Lib.hid (dcI_enc HI.out hvl)
      clear hvl
      go_wp2_with fail
      go_at_call 23
      refine (encodeInts_any _ _ _ _ vs (by omega) HO.out.sees).mono ?_
      rintro e w6 ⟨a6, l6, c6, rfl, ho6, hb6⟩
      have hl6 : l6 ≤ 30 := by have := ho6.1; have := encAll_len vs; have := HO.out.1; omega
      have HD1 : Hid (dcI (encAll vs) 0 (l' : Int) = some (vs, (l6 : Int))) := Lib.hid (by rw [← HO.out.1, ← ho6.1]; exact HD.out.1)
      have HD2 : Hid (dcI (encAll vs) 0 ((l' : Int) + 1) = none) := Lib.hid (by rw [← HO.out.1]; exact HD.out.2)
      have HO6 := Lib.hid ho6
      have HV6 := Lib.hid (HO.out.below hb6)
      have HB6 := Lib.hid (below_up HB.out hb6 (Nat.le_refl _))
      clear ho6 hb6
      go_wp2_with fail
      go_at_call 24
      refine (decode_yes _ _ _ _ (encAll vs) _ _ _ _ (by omega) HO6.out.room HD1.out HO6.out.sees).mono ?_
      rintro e w7 ⟨a7, l7, c7, rfl, ho7, hb7⟩
      have hl7 : l' = l7 := HO.out.1.symm.trans ho7.1
      subst hl7
      have HO7 := Lib.hid ho7
      have HV7 := Lib.hid (HV6.out.below hb7)
      have HE7 := Lib.hid (HO6.out.below hb7)
      have HB7 := Lib.hid (below_up HB6.out hb7 (Nat.le_refl _))
      clear ho7 hb7
      go_wp2_with fail
      go_at_call 24
      refine (decode_no _ _ _ _ (encAll vs) _ _ (by omega) HE7.out.room HD2.out HE7.out.sees).mono ?_
      rintro e w8 ⟨a8, l8, c8, rfl, ho8, hb8⟩
      have HO8 := Lib.hid (HO7.out.below hb8)
      have HV8 := Lib.hid (HV7.out.below hb8)
      have HB8 := Lib.hid (below_up HB7.out hb8 (Nat.le_refl _))
      clear ho8 hb8
      go_wp2_with fail
      go_at_call 25
      refine (sameI_yes _ _ _ _ _ _ vs (by omega) HO8.out.sees HV8.out.sees).mono ?_
      rintro e w9 ⟨rfl, hb9⟩
      have HB9 := Lib.hid (below_up HB8.out hb9 (Nat.le_refl _))
      clear hb9
      go_wp2_with fail
      go_ret
      exact ⟨rfl, HB9.out⟩
theorem lawByteS_walk (a : Option Addr) (len cap : Nat) (z : List Int) (W : World) (w0 : IsRow .u8 W a len cap z) :
    Calls Try.prog 4 #[.slice a len cap] W (RetTrue W) := by
  by_cases hl : len ≤ 1048576
  · exact lawByteS_small W a len cap hl (code_of w0)
  · clear w0
    go_enter Try.func4, Try.ntmps4
    go_wp2_with (go_at_call 12; refine (big_yes _ a len cap hl).mono ?_; rintro e w0 ⟨rfl, rfl⟩)
    go_ret
    exact ⟨rfl, Below.refl _ _⟩
end Go.Proofs.Ytnhpkiddepfjoaa
