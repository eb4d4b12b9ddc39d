/- Lists of integers read: the model's DecodeInts and the program's. -/
import Derived.Test.YtnhpkiddepfjoaaReadB
import Derived.Test.YtnhpkiddepfjoaaSlI
namespace Go.Proofs.Ytnhpkiddepfjoaa
open Go.RowKit
/-- n varints, one behind the other. -/
def decN (zs : List Int) : Nat → Int → Option (List Int × Int)
  | 0, o => some ([], o)
  | k + 1, o => match rd zs o with
    | none => none
    | some (m, q) => (decN zs k q).map (fun p => (m :: p.1, p.2))
/-- What DecodeInts finds. -/
def dcI (zs : List Int) (o n : Int) : Option (List Int × Int) := if inR n 0 100 && inR o 0 zs.length then decN zs n.toNat o else none
theorem dcI_none1 {zs : List Int} {o n : Int} (h : inR n 0 100 = false) : dcI zs o n = none := by unfold dcI; rw [h]; rfl
theorem dcI_none2 {zs : List Int} {o n : Int} (h : inR o 0 zs.length = false) : dcI zs o n = none := by unfold dcI; rw [h]; simp
theorem dcI_in {zs : List Int} {o n : Int} (h1 : inR n 0 100 = true) (h2 : inR o 0 zs.length = true) : dcI zs o n = decN zs n.toNat o := by unfold dcI; rw [h1, h2]; rfl
/-- Where the reading of a list stands. -/
def Decoding (zs : List Int) (o : Int) (n i : Nat) (xs : List Int) (cur : Int) : Prop :=
  xs.length = i ∧ i ≤ n ∧ 0 ≤ cur ∧ cur ≤ zs.length ∧ (∀ x ∈ xs, inU x) ∧ decN zs n o = (decN zs (n - i) cur).map (fun p => (xs ++ p.1, p.2))
theorem decoding_start {zs : List Int} {o : Int} {n : Nat} (h0 : 0 ≤ o) (h1 : o ≤ zs.length) : Decoding zs o n 0 [] o := by
  refine ⟨rfl, Nat.zero_le _, h0, h1, (fun _ h => by cases h), ?_⟩
  cases decN zs (n - 0) o <;> rfl
theorem decoding_next {zs : List Int} {o : Int} {n i : Nat} {xs : List Int} {cur m q : Int} (hb : ∀ x ∈ zs, 0 ≤ x ∧ x ≤ 255) (h : Decoding zs o n i xs cur) (hi : i < n) (hr : rd zs cur = some (m, q)) : Decoding zs o n (i + 1) (xs ++ [m]) q := by
  obtain ⟨h1, h2, h3, h4, h5, h6⟩ := h
  obtain ⟨g1, g2, g3, _, g5, _⟩ := rd_some hb hr
  refine ⟨by simp [h1], hi, by omega, g3, ?_, ?_⟩
  · intro x hx
    rcases List.mem_append.1 hx with hx | hx
    · exact h5 x hx
    · rw [List.mem_singleton] at hx; rw [hx]; exact g5
  · rw [h6]
    have e : n - i = (n - (i + 1)) + 1 := by omega
    rw [e]
    simp only [decN, hr]
    cases decN zs (n - (i + 1)) q <;> simp
theorem decoding_fail {zs : List Int} {o : Int} {n i : Nat} {xs : List Int} {cur : Int} (h : Decoding zs o n i xs cur) (hi : i < n) (hr : rd zs cur = none) : decN zs n o = none := by
  obtain ⟨h1, h2, h3, h4, h5, h6⟩ := h
  rw [h6]
  have e : n - i = (n - (i + 1)) + 1 := by omega
  rw [e]
  simp only [decN, hr]
  rfl
theorem decoding_done {zs : List Int} {o : Int} {n i : Nat} {xs : List Int} {cur : Int} (h : Decoding zs o n i xs cur) (hi : n ≤ i) : decN zs n o = some (xs, cur) := by
  obtain ⟨h1, h2, h3, h4, h5, h6⟩ := h
  rw [h6, show n - i = 0 by omega]
  simp [decN]
theorem inU_wf {x : Int} (h : inU x) : (Lit.int .i64 x).wf = true := WalkArith.wf_i64 (by unfold inU at h; omega)
theorem fill_set (xs : List Int) (n : Nat) (x : Int) (h : xs.length < n) : (xs ++ List.replicate (n - xs.length) (0 : Int)).set xs.length x = (xs ++ [x]) ++ List.replicate (n - (xs.length + 1)) 0 := by
  rw [List.set_append_right _ _ (Nat.le_refl _), Nat.sub_self, show n - xs.length = (n - (xs.length + 1)) + 1 by omega, List.replicate_succ]
  simp
theorem inR_no {n lo hi : Int} (h : ¬ inR n lo hi = true) : inR n lo hi = false := by
  cases e : inR n lo hi
  · rfl
  · exact absurd e h
set_option maxHeartbeats 1600000 in
theorem specDecode_any (W : World) (a : Option Addr) (len cap : Nat) (zs : List Int) (o n : Int) (hl : len ≤ 1073741824) (hs : Sees .u8 W a len zs) :
    Calls Try.prog 37 #[.slice a len cap, .int .i64 o, .int .i64 n] W (MadeR .i64 3 (dcI zs o n) W) := by
  have HS := Lib.hid hs
  have HL := Lib.hid hs.1
  clear hs
  obtain ⟨i0, hi, hz0, hz1, hz2⟩ := info_parts info_i64
  by_cases hn : inR n 0 100 = true
  · by_cases ho : inR o 0 len = true
    · have HI := Lib.hid (dcI_in (zs := zs) hn (by rw [HL.out]; exact ho))
      obtain ⟨n, rfl⟩ : ∃ p : Nat, n = p := ⟨n.toNat, by have := inR_true.1 hn; omega⟩
      have hn1 : n ≤ 100 := by have := inR_true.1 hn; omega
      have ho1 := inR_true.1 ho
      have en : ((n : Int)).toNat = n := by omega
      rw [en] at HI
      have HD0 := Lib.hid (decoding_start (zs := zs) (n := n) ho1.1 (by rw [HL.out]; exact ho1.2))
      clear en ho1
      go_enter Try.func37, Try.ntmps37
      go_wp2_with (go_at_call 53; refine (l1In_any _ _ _ _).mono ?_; rintro e w' ⟨rfl, rfl⟩)
      go_loopw [1, 9, 10] (fun c v i wr => ∃ (k : Nat) (kx cur : Int) (xs : List Int) (a' : Option Addr) (l' c' : Nat), kx = k ∧ i = .int .i64 kx ∧ c = .int .i64 cur ∧ v = .slice a' l' c' ∧ Decoding zs o n k xs cur ∧ Own .i64 3 wr W.heap.size wr.heap.size a' l' c' xs ∧ Below W.heap.size W wr) (fun _ _ i _ => n - (intOf i).toNat)
      case atStart => exact ⟨0, 0, o, [], _, _, _, rfl, rfl, rfl, rfl, HD0.out, (own_nil _ _ _).wide (Nat.le_refl _) (by simp) (Nat.le_refl _), (Below.refl _ _).alloc (Nat.le_refl _) _⟩
      case round =>
        obtain ⟨k, kx, cur, xs, a', l', c', hkx, rfl, rfl, rfl, hd, how, hb⟩ := hrel
        have HO := Lib.hid how
        have HB := Lib.hid hb
        have HK := Lib.hid hkx
        have HD := Lib.hid hd
        have hsz := hb.size
        have hk0 : 0 ≤ kx := by omega
        have hk1 : kx ≤ n := by have := hd.2.1; omega
        have hl' : l' ≤ 100 := by have := how.1; have := hd.1; have := hd.2.1; omega
        have hc0 : -9223372036854775808 ≤ cur := by have := hd.2.2.1; omega
        have hc1 : cur ≤ 9223372036854775807 := by have := hd.2.2.2.1; have := HL.out; omega
        clear how hb hkx hd
        by_cases hlt : kx < n
        · rcases hr : rd zs cur with _ | ⟨m, q⟩
          · have HR := Lib.hid hr
            have HN := Lib.hid (decoding_fail HD.out (by have := HK.out; omega) hr)
            clear hr
            go_wp2_with fail
            go_at_call 18
            refine (specRead_no _ _ _ _ zs cur hl hc0 hc1 HR.out (HS.out.below HB.out)).mono ?_
            rintro e w1 ⟨rfl, hb⟩
            have HB1 := Lib.hid hb
            clear hb
            go_wp2
            go_ret3
            exact madeR_none (HI.out.trans HN.out) (madeT_nil _ _ _ _ (below_up HB.out HB1.out (Nat.le_refl _)))
          · have HR := Lib.hid hr
            have HN := Lib.hid (decoding_next (fun x hx => bounds_u8 (HS.out.2.1 x hx)) HD.out (by have := HK.out; omega) hr)
            have hwf : (Lit.int .i64 m).wf = true := inU_wf (HN.out.2.2.2.2.1 m (by simp))
            have HW := Lib.hid hwf
            clear hr hwf
            go_wp2_with fail
            go_at_call 18
            refine (specRead_yes _ _ _ _ zs cur _ _ hl hc0 hc1 HR.out (HS.out.below HB.out)).mono ?_
            rintro e w1 ⟨rfl, hb⟩
            have HB1 := Lib.hid (below_up HB.out hb (Nat.le_refl _))
            have HO1 := Lib.hid (HO.out.below hb)
            have hsz1 := HB1.out.size
            clear hb
            go_wp2_with (at_builtin; refine wp_append_sees rfl _ _ 35 rfl 3 i0 .i64 8 Try.underlying35 hi hz0 hz1 hz2 _ _ _ _ rfl _ _ (HO1.out.alloc _) _ _ _ _ rfl (sees_one HW.out _ _) (by unfold maxLen; omega) (by omega) (by simp; omega) ?_; intro a2 len2 cap2 w2 hlen2 ho2 hm2; clear hlen2; have HO2 := Lib.hid ho2; have HM2 := Lib.hid hm2; clear ho2 hm2)
            go_roundw
            case rel => exact ⟨k + 1, kx + 1, q, _, _, _, _, by have := HK.out; omega, rfl, rfl, rfl, HN.out, HO2.out, below_moved (HB1.out.alloc hsz1 _) HM2.out (Nat.le_refl _) (Nat.le_refl _)⟩
            case measure => simp [intOf]; omega
        · have HN := Lib.hid (decoding_done HD.out (by have := HK.out; omega))
          go_wp2_with fail
          go_ret3
          exact madeR_some (HI.out.trans HN.out) ⟨_, _, _, rfl, HO.out, HB.out⟩
    · have ho' := inR_no ho
      have HN := Lib.hid (dcI_none2 (zs := zs) (o := o) (n := n) (by rw [HL.out]; exact ho'))
      clear ho
      go_enter Try.func37, Try.ntmps37
      go_wp2_with (go_at_call 53; refine (l1In_any _ _ _ _).mono ?_; rintro e w' ⟨rfl, rfl⟩)
      go_ret3
      exact madeR_none HN.out (madeT_nil _ _ _ _ (Below.refl _ _))
  · have hn' := inR_no hn
    have HN := Lib.hid (dcI_none1 (zs := zs) (o := o) (n := n) hn')
    clear hn
    go_enter Try.func37, Try.ntmps37
    go_wp2_with (go_at_call 53; refine (l1In_any _ _ _ _).mono ?_; rintro e w' ⟨rfl, rfl⟩)
    go_ret3
    exact madeR_none HN.out (madeT_nil _ _ _ _ (Below.refl _ _))
set_option maxHeartbeats 1600000 in
theorem decode_any (W : World) (a : Option Addr) (len cap : Nat) (zs : List Int) (o n : Int) (hl : len ≤ 1073741824) (hlc : len ≤ cap) (hs : Sees .u8 W a len zs) :
    Calls Try.prog 24 #[.slice a len cap, .int .i64 o, .int .i64 n] W (MadeR .i64 3 (dcI zs o n) W) := by
  have HS := Lib.hid hs
  have HL := Lib.hid hs.1
  clear hs
  obtain ⟨i0, hi, hz0, hz1, hz2⟩ := info_parts info_i64
  by_cases hn : inR n 0 100 = true
  · by_cases ho : inR o 0 len = true
    · have HI := Lib.hid (dcI_in (zs := zs) hn (by rw [HL.out]; exact ho))
      obtain ⟨n, rfl⟩ : ∃ p : Nat, n = p := ⟨n.toNat, by have := inR_true.1 hn; omega⟩
      have hn1 : n ≤ 100 := by have := inR_true.1 hn; omega
      have ho1 := inR_true.1 ho
      have en : ((n : Int)).toNat = n := by omega
      rw [en] at HI
      have HD0 := Lib.hid (decoding_start (zs := zs) (n := n) ho1.1 (by rw [HL.out]; exact ho1.2))
      clear en ho1
      go_enter Try.func24, Try.ntmps24
      go_wp2_with (first | (go_at_call 47; refine (inRange_any _ _ _ _).mono ?_; rintro e w' ⟨rfl, rfl⟩) | (at_make; refine wp_make_room _ rfl _ _ 35 rfl 3 i0 .i64 8 Try.underlying35 hi hz0 hz1 hz2 _ _ _ _ n n rfl rfl rfl rfl (Nat.le_refl _) (by omega) (by unfold maxLen; omega) ?_; intro w1 ho1 hb1; have HO1 := Lib.hid ho1; have HB1 := Lib.hid hb1; clear ho1 hb1))
      go_loopw [1, 29] (fun c i wr => ∃ (k : Nat) (kx cur : Int) (xs : List Int), kx = k ∧ i = .int .i64 kx ∧ c = .int .i64 cur ∧ Decoding zs o n k xs cur ∧ Own .i64 3 wr W.heap.size w1.heap.size (some ⟨W.heap.size, 0, none⟩) n n (xs ++ List.replicate (n - xs.length) 0) ∧ Below W.heap.size W wr) (fun _ i _ => n - (intOf i).toNat)
      case atStart => exact ⟨0, 0, o, [], rfl, rfl, rfl, HD0.out, HO1.out, HB1.out⟩
      case round =>
        obtain ⟨k, kx, cur, xs, hkx, rfl, rfl, hd, how, hb⟩ := hrel
        have HO := Lib.hid how
        have HB := Lib.hid hb
        have HK := Lib.hid hkx
        have HD := Lib.hid hd
        have hsz := hb.size
        have hk0 : 0 ≤ kx := by omega
        have hk1 : kx ≤ n := by have := hd.2.1; omega
        have hc0 : -9223372036854775808 ≤ cur := by have := hd.2.2.1; omega
        have hc1 : cur ≤ 9223372036854775807 := by have := hd.2.2.2.1; have := HL.out; omega
        clear how hb hkx hd
        by_cases hlt : kx < n
        · rcases hr : rd zs cur with _ | ⟨m, q⟩
          · have HR := Lib.hid hr
            have HN := Lib.hid (decoding_fail HD.out (by have := HK.out; omega) hr)
            clear hr
            go_wp2_with fail
            go_at_call 15
            refine (read_no _ _ _ _ zs cur hl hlc hc0 hc1 HR.out (HS.out.below HB.out)).mono ?_
            rintro e w1 ⟨rfl, hb⟩
            have HB1 := Lib.hid hb
            clear hb
            go_wp2
            go_ret3
            exact madeR_none (HI.out.trans HN.out) (madeT_nil _ _ _ _ (below_up HB.out HB1.out (Nat.le_refl _)))
          · have HR := Lib.hid hr
            have HN := Lib.hid (decoding_next (fun x hx => bounds_u8 (HS.out.2.1 x hx)) HD.out (by have := HK.out; omega) hr)
            have hwf : (Lit.int .i64 m).wf = true := inU_wf (HN.out.2.2.2.2.1 m (by simp))
            have HW := Lib.hid hwf
            clear hr hwf
            go_wp2_with fail
            go_at_call 15
            refine (read_yes _ _ _ _ zs cur _ _ hl hlc hc0 hc1 HR.out (HS.out.below HB.out)).mono ?_
            rintro e w2 ⟨rfl, hb⟩
            have HB1 := Lib.hid (below_up HB.out hb (Nat.le_refl _))
            have HO2 := Lib.hid (HO.out.below hb)
            have hsz1 := HB1.out.size
            clear hb
            rcases HO2.out.spot with ⟨hx, _⟩ | ⟨g, hg, _, _, _, _, hcs, hfz⟩
            · cases hx
            · obtain rfl : W.heap.size = g := by simpa using hg
              have hcd := hcs kx.toNat (by omega)
              have hfd := hfz kx.toNat
              obtain ⟨u, hu⟩ : ∃ u, u = (xs ++ List.replicate (n - xs.length) 0).getD kx.toNat 0 := ⟨_, rfl⟩
              rw [← hu] at hcd
              clear hcs hfz hg hu
              go_wp2_with fail
              go_roundw
              case rel =>
                have hkk : kx.toNat = xs.length := by have := HK.out; have := HD.out.1; omega
                have hst := HO2.out.stored xs.length m HW.out
                rw [fill_set _ _ _ (by have := HD.out.1; have := HK.out; omega)] at hst
                rw [hkk]
                refine ⟨k + 1, kx + 1, q, xs ++ [m], by have := HK.out; omega, rfl, rfl, HN.out, ?_, below_moved HB1.out hst.2 (Nat.le_refl _) (Nat.le_refl _)⟩
                rw [show (xs ++ [m]).length = xs.length + 1 by simp]
                exact hst.1
              case measure => simp [intOf]; omega
        · have HN := Lib.hid (decoding_done HD.out (by have := HK.out; omega))
          go_wp2_with fail
          go_ret3
          have e : xs ++ List.replicate (n - xs.length) (0 : Int) = xs := by
            rw [show n - xs.length = 0 by have := HD.out.1; have := HK.out; omega]
            simp
          have h := HO.out
          rw [e] at h
          exact madeR_some (HI.out.trans HN.out) ⟨_, _, _, rfl, h.wide (Nat.le_refl _) h.2.2.1 (Nat.le_refl _), HB.out⟩
    · have ho' := inR_no ho
      have HN := Lib.hid (dcI_none2 (zs := zs) (o := o) (n := n) (by rw [HL.out]; exact ho'))
      clear ho
      go_enter Try.func24, Try.ntmps24
      go_wp2_with (go_at_call 47; refine (inRange_any _ _ _ _).mono ?_; rintro e w' ⟨rfl, rfl⟩)
      go_ret3
      exact madeR_none HN.out (madeT_nil _ _ _ _ (Below.refl _ _))
  · have hn' := inR_no hn
    have HN := Lib.hid (dcI_none1 (zs := zs) (o := o) (n := n) hn')
    clear hn
    go_enter Try.func24, Try.ntmps24
    go_wp2_with (go_at_call 47; refine (inRange_any _ _ _ _).mono ?_; rintro e w' ⟨rfl, rfl⟩)
    go_ret3
    exact madeR_none HN.out (madeT_nil _ _ _ _ (Below.refl _ _))
end Go.Proofs.Ytnhpkiddepfjoaa
