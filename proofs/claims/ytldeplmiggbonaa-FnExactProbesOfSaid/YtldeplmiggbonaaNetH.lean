/- Lists without repeats; whether a path is one; the row of a path. -/
import Derived.Test.YtldeplmiggbonaaNetE
import Derived.Test.YtldeplmiggbonaaMapI
import Derived.Test.YtldeplmiggbonaaSlA
namespace Go.Proofs.Ytldeplmiggbonaa
open Go.RowKit
def hasB (zs : List Int) (x : Int) : Bool := decide (x ∈ zs)
theorem hasB_yes {zs : List Int} {x : Int} {k : Nat} (hk : k < zs.length) (h : zs.getD k 0 = x) : hasB zs x = true := by
  unfold hasB
  rw [← h]
  exact decide_eq_true (getD_mem hk)
theorem hasB_no {zs : List Int} {x : Int} (h : ∀ j, j < zs.length → ¬ zs.getD j 0 = x) : hasB zs x = false := by
  unfold hasB
  refine decide_eq_false fun hm => ?_
  obtain ⟨j, hj, e⟩ := List.getElem_of_mem hm
  exact h j hj (by simp [List.getD, hj, e])
set_option maxRecDepth 20000 in
set_option maxHeartbeats 800000 in
theorem has_any (W : World) (a : Option Addr) (len cap : Nat) (zs : List Int) (x : Int) (hl : len ≤ 1073741824) (hs : Sees .i64 W a len zs) :
    Calls Try.prog 62 #[.slice a len cap, .int .i64 x] W fun e w' => e = .returned (.bool (hasB zs x)) ∧ W = w' := by
  have HS := Lib.hid hs
  have HL := Lib.hid hs.1
  clear hs
  obtain ⟨v, hv⟩ : ∃ v : Bool, v = hasB zs x := ⟨_, rfl⟩
  rw [← hv]
  have HV := Lib.hid hv
  clear hv
  go_enter Try.func62, Try.ntmps62
  go_wp2
  go_loopw [5] (fun i wr => ∃ k : Nat, k ≤ len ∧ i = .int .i64 k ∧ Hid (∀ j, j < k → ¬ zs.getD j 0 = x) ∧ wr = W) (fun i _ => len - (intOf i).toNat)
  case atStart => exact ⟨0, Nat.zero_le _, rfl, Lib.hid (fun j hj => by omega), rfl⟩
  case round =>
    obtain ⟨k, hk, rfl, HA, rfl⟩ := hrel
    by_cases hlt : k < len
    · rcases HS.out.2.2 with h0 | ⟨b, o, rfl, hb, hc⟩
      · omega
      have hx := hc k hlt
      obtain ⟨y, hy⟩ : ∃ y, zs.getD k 0 = y := ⟨_, rfl⟩
      rw [hy] at hx
      have HY := Lib.hid hy
      clear hc hy
      by_cases h : y = x
      · subst h
        have HE : Hid (v = true) := Lib.hid (by rw [HV.out]; exact hasB_yes (by rw [HL.out]; exact hlt) HY.out)
        go_wp2
        go_ret
        exact ⟨ret_bool HE.out.symm, rfl⟩
      · go_wp2
        go_roundw
        case rel => exact ⟨k + 1, by omega, by go_num, Lib.hid (next_all HA.out (by rw [HY.out]; exact h)), trivial⟩
        case measure => simp [intOf]; omega
    · obtain rfl : k = len := by omega
      have HE : Hid (v = false) := Lib.hid (by rw [HV.out]; exact hasB_no (fun j hj => HA.out j (by rw [HL.out] at hj; exact hj)))
      go_wp2
      go_ret
      exact ⟨ret_bool HE.out.symm, rfl⟩
/-- No number stands ahead a second time. -/
theorem nodup_of {p : List Int} (h : ∀ k, k < p.length → hasB (p.take k) (p.getD k 0) = false) : p.Nodup := by
  refine List.pairwise_iff_getElem.2 fun i j hi hj hij e => ?_
  have h1 := h j hj
  have h2 : hasB (p.take j) (p.getD j 0) = true := hasB_yes (k := i) (by simp; omega) (by
    have e1 : p.getD j 0 = p[j] := by simp [List.getD, hj]
    rw [e1, ← e]
    simp [List.getD, hij, hi])
  rw [h1] at h2
  cases h2
theorem not_nodup {p : List Int} {k : Nat} (hk : k < p.length) (h : hasB (p.take k) (p.getD k 0) = true) : ¬ p.Nodup := fun hd => by
  have hm := of_decide_eq_true h
  obtain ⟨i, hi, e⟩ := List.getElem_of_mem hm
  simp only [List.length_take] at hi
  have h2 := List.pairwise_iff_getElem.1 hd i k (by omega) hk (by omega)
  apply h2
  simp only [List.getElem_take] at e
  rw [e]
  simp [List.getD, hk]
def isPathB (ls : List (Int × Int)) (p : List Int) (a b : Int) : Bool := decide p.Nodup && (decide (endV ls p a = b) && (decide (0 ≤ b) || decide (p.length = 0)))
theorem path_dup {ls : List (Int × Int)} {p : List Int} {a b : Int} (h : ¬ p.Nodup) : isPathB ls p a b = false := by
  unfold isPathB
  rw [decide_eq_false h]
  rfl
theorem path_nodup {ls : List (Int × Int)} {p : List Int} {a b : Int} (h : p.Nodup) : isPathB ls p a b = (decide (endV ls p a = b) && (decide (0 ≤ b) || decide (p.length = 0))) := by
  unfold isPathB
  rw [decide_eq_true h]
  rfl
theorem Sees.cut {k : IntKind} {w : World} {a : Option Addr} {len m : Nat} {zs : List Int} (h : Sees k w a len zs) (hm : m ≤ len) : Sees k w a m (zs.take m) := by
  obtain ⟨h1, h2, h3⟩ := h
  refine ⟨by rw [List.length_take, h1]; omega, fun n hn => h2 n (List.mem_of_mem_take hn), ?_⟩
  rcases h3 with h3 | ⟨b, off, ha, hlt, hc⟩
  · exact .inl (by omega)
  · refine .inr ⟨b, off, ha, hlt, fun j hj => ?_⟩
    rw [hc j (by omega)]
    simp [List.getD, hj]
theorem ret_boolV {a b : Bool} (h : a = b) : Ending.returned (.bool a) = .returned (.bool b) := by rw [h]
set_option maxRecDepth 20000 in
set_option maxHeartbeats 1600000 in
theorem specPath_any (W : World) (n : Int) (a : Option Addr) (len cap : Nat) (ls : List (Int × Int)) (b : Option Addr) (lp cp : Nat) (p : List Int) (v0 v1 : Int) (hl : len ≤ 1073741824) (hs : SeesL W a len ls) (hlp : lp ≤ 1073741824) (hcp : lp ≤ cp) (hp : Sees .i64 W b lp p) :
    Calls Try.prog 44 #[.agg #[.int .i64 n, .slice a len cap], .slice b lp cp, .int .i64 v0, .int .i64 v1] W fun e w' => e = .returned (.bool (isPathB ls p v0 v1)) ∧ Below W.heap.size W w' := by
  have HPL := Lib.hid hp.1
  obtain ⟨V, hV⟩ : ∃ V, V = W.alloc (.cells #[.int .i64 n, .slice a len cap] 33) := ⟨_, rfl⟩
  have HBV : Hid (Below W.heap.size W V) := Lib.hid (by rw [hV]; exact below_new _ _)
  have HN := Lib.hid (show NetAt V W.heap.size n a len cap by rw [hV]; exact net_new _ _ _ _ _ _)
  have HS := Lib.hid (hs.below HBV.out)
  have HP := Lib.hid (hp.below HBV.out)
  clear hs hp
  obtain ⟨v, hv⟩ : ∃ v : Bool, v = isPathB ls p v0 v1 := ⟨_, rfl⟩
  rw [← hv]
  have HV := Lib.hid hv
  clear hv
  go_enter Try.func44, Try.ntmps44
  go_wp2_with fail
  rw [← hV]
  clear hV
  go_loopw [9] (fun i wr => ∃ k : Nat, k ≤ lp ∧ i = .int .i64 k ∧ Hid (∀ j, j < k → hasB (p.take j) (p.getD j 0) = false) ∧ Below V.heap.size V wr) (fun i _ => lp - (intOf i).toNat)
  case atStart => exact ⟨0, Nat.zero_le _, rfl, Lib.hid (fun j hj => by omega), Below.refl _ _⟩
  case round =>
    obtain ⟨k, hk, rfl, HA, hb⟩ := hrel
    have HB := Lib.hid hb
    have HNW := Lib.hid (HN.out.below hb)
    have HSW := Lib.hid (HS.out.below hb)
    have HPW := Lib.hid (HP.out.below hb)
    clear hb
    by_cases hlt : k < lp
    · rcases HPW.out.2.2 with h0 | ⟨b1, o1, rfl, hb1, hc1⟩
      · omega
      have hx := hc1 k hlt
      have hkp : k < p.length := by rw [HPL.out]; exact hlt
      have i0k : (0 : Int) ≤ (k : Int) := by omega
      have i1k : (k : Int) < (lp : Int) := by omega
      have i2k : (k : Int) ≤ (cp : Int) := by omega
      have i3k : k ≤ cp := by omega
      have HPC : Hid (Sees .i64 wr.drew (some ⟨b1, o1, none⟩) k (p.take k)) := Lib.hid ((HPW.out.cut hk).below (Below.refl _ _).drew)
      obtain ⟨y, hy⟩ : ∃ y, p.getD k 0 = y := ⟨_, rfl⟩
      rw [hy] at hx
      have HY := Lib.hid hy
      clear hc1 hy
      cases hin : hasB (p.take k) y
      · have HIN := Lib.hid hin
        clear hin
        go_wp2_with fail
        go_region_held3 (fun w' => w'.cell? ⟨b1, o1 + k, none⟩ = some (.int .i64 y)) (go_keep) (first
          | (go_at_call 62; refine (has_any _ _ k _ (p.take k) y (by omega) HPC.out).mono ?_; rw [HIN.out]; rintro e w' ⟨rfl, rfl⟩))
        go_wp2
        go_roundw
        case rel => exact ⟨k + 1, by omega, by go_num, Lib.hid (next_all HA.out (by rw [HY.out]; exact HIN.out)), HB.out.drew⟩
        case measure => simp [intOf]; omega
      · have HE : Hid (v = false) := Lib.hid (by rw [HV.out]; exact path_dup (not_nodup hkp (by rw [HY.out]; exact hin)))
        have HIN := Lib.hid hin
        clear hin
        go_wp2_with fail
        go_region_held3 (fun w' => w'.cell? ⟨b1, o1 + k, none⟩ = some (.int .i64 y)) (go_keep) (first
          | (go_at_call 62; refine (has_any _ _ k _ (p.take k) y (by omega) HPC.out).mono ?_; rw [HIN.out]; rintro e w' ⟨rfl, rfl⟩))
        go_wp2
        go_ret
        exact ⟨ret_bool HE.out.symm, HBV.out.trans (HB.out.drew.mono HBV.out.size)⟩
    · obtain rfl : k = lp := by omega
      have HE : Hid (v = (decide (endV ls p v0 = v1) && (decide (0 ≤ v1) || decide (p.length = 0)))) := Lib.hid (by rw [HV.out]; exact path_nodup (nodup_of (fun j hj => HA.out j (by rw [HPL.out] at hj; exact hj))))
      have c0 := HNW.out.c0
      have c1 := HNW.out.c1
      obtain ⟨q, hq⟩ : ∃ q, endV ls p v0 = q := ⟨_, rfl⟩
      rw [hq] at HE
      rw [HPL.out] at HE
      have HQ := Lib.hid hq
      clear hq
      by_cases h1 : q = v1
      · subst h1
        by_cases h2 : 0 ≤ q
        · have HX : Hid (v = true) := Lib.hid (by rw [HE.out]; simp [h2])
          go_wp2_with (go_at_call 56; refine (specEnd_any _ n a len cap ls b k cp p v0 hl HSW.out hlp HPW.out).mono ?_; rw [HQ.out]; rintro e w2 ⟨rfl, hb2⟩; have HB2 := Lib.hid (below_up HB.out hb2 (Nat.le_refl _)); clear hb2)
          go_ret
          exact ⟨ret_bool HX.out.symm, HBV.out.trans (HB2.out.mono HBV.out.size)⟩
        · rcases Nat.eq_zero_or_pos k with h3 | h3
          · subst h3
            have HX : Hid (v = true) := Lib.hid (by rw [HE.out]; simp)
            go_wp2_with (go_at_call 56; refine (specEnd_any _ n a len cap ls b 0 cp p v0 hl HSW.out hlp HPW.out).mono ?_; rw [HQ.out]; rintro e w2 ⟨rfl, hb2⟩; have HB2 := Lib.hid (below_up HB.out hb2 (Nat.le_refl _)); clear hb2)
            go_ret
            exact ⟨ret_bool HX.out.symm, HBV.out.trans (HB2.out.mono HBV.out.size)⟩
          · have h4 : ¬ (k : Int) = 0 := by omega
            have h5 : ¬ k = 0 := by omega
            have HX : Hid ((decide (0 ≤ q) || (k : Int) == 0) = v) := Lib.hid (by rw [HE.out]; simp [h2, h5])
            go_wp2_with (go_at_call 56; refine (specEnd_any _ n a len cap ls b k cp p v0 hl HSW.out hlp HPW.out).mono ?_; rw [HQ.out]; rintro e w2 ⟨rfl, hb2⟩; have HB2 := Lib.hid (below_up HB.out hb2 (Nat.le_refl _)); clear hb2)
            go_ret
            exact ⟨ret_bool HX.out, HBV.out.trans (HB2.out.mono HBV.out.size)⟩
      · have HX : Hid (v = false) := Lib.hid (by rw [HE.out]; simp [h1])
        go_wp2_with (go_at_call 56; refine (specEnd_any _ n a len cap ls b k cp p v0 hl HSW.out hlp HPW.out).mono ?_; rw [HQ.out]; rintro e w2 ⟨rfl, hb2⟩; have HB2 := Lib.hid (below_up HB.out hb2 (Nat.le_refl _)); clear hb2)
        go_ret
        exact ⟨ret_bool HX.out.symm, HBV.out.trans (HB2.out.mono HBV.out.size)⟩
/-! The program's. -/
theorem zero_bool (w : World) : (zeroValue 4).run Try.prog w = .ok (.bool false) w := by kernel_rfl
theorem twice_end {p : List Int} {k : Nat} {F : Int → Option Value} (hF : ∀ x, F x = if x ∈ p.take k then some (.bool true) else none) (hk : k < p.length) :
    ∀ x, (fun y => if y = p.getD k 0 then some (Value.bool true) else F y) x = if x ∈ p.take (k + 1) then some (.bool true) else none := fun x => by
  have e : p.take (k + 1) = p.take k ++ [p.getD k 0] := by rw [List.take_add_one]; simp [List.getD, hk]
  simp only [e, List.mem_append, List.mem_singleton]
  by_cases h : x = p.getD k 0
  · simp [h]
  · simp only [h, if_false, or_false]; exact hF x
set_option maxRecDepth 20000 in
set_option maxHeartbeats 1600000 in
theorem twice_any (W : World) (a : Option Addr) (len cap : Nat) (p : List Int) (hl : len ≤ 1073741824) (hs : Sees .i64 W a len p) :
    Calls Try.prog 64 #[.slice a len cap] W fun e w' => e = .returned (.bool (!decide p.Nodup)) ∧ Below W.heap.size W w' := by
  have HL := Lib.hid hs.1
  have HS := Lib.hid hs
  clear hs
  obtain ⟨v, hv⟩ : ∃ v : Bool, v = !decide p.Nodup := ⟨_, rfl⟩
  rw [← hv]
  have HV := Lib.hid hv
  clear hv
  have hmm := @run_makeMap Try.prog
  go_enter Try.func64, Try.ntmps64
  go_wp2
  go_loopw [9, 5] (fun i _ wr => ∃ (k : Nat) (F : Int → Option Value), k ≤ len ∧ i = .int .i64 k ∧ Hid (∀ j, j < k → hasB (p.take j) (p.getD j 0) = false) ∧ Hid (∀ x, F x = if x ∈ p.take k then some (.bool true) else none) ∧ Hid (MapI wr W.heap.size k F) ∧ Below W.heap.size W wr) (fun i _ _ => len - (intOf i).toNat)
  case atStart => exact ⟨0, fun _ => none, Nat.zero_le _, rfl, Lib.hid (fun j hj => by omega), Lib.hid (fun x => by simp), Lib.hid (mapI_made W), below_new W _⟩
  case round =>
    obtain ⟨k, F, hk, rfl, HA, HF, HM, hb⟩ := hrel
    have HB := Lib.hid hb
    by_cases hlt : k < len
    · rcases HS.out.2.2 with h0 | ⟨b1, o1, rfl, hb1, hc1⟩
      · omega
      have hx := (hb.cell (p := ⟨b1, o1 + k, none⟩) hb1).trans (hc1 k hlt)
      have hkp : k < p.length := by rw [HL.out]; exact hlt
      have hwf := HS.out.2.1 _ (getD_mem hkp)
      obtain ⟨y, hy⟩ : ∃ y, p.getD k 0 = y := ⟨_, rfl⟩
      rw [hy] at hx hwf
      have HY := Lib.hid hy
      have hlook := HM.out.look (P := Try.prog) Try.underlying3 Try.underlying94 (zero_bool wr) hwf false
      have HWF := Lib.hid hwf
      clear hc1 hy hb hwf
      cases hin : hasB (p.take k) y
      · have hFy : F y = none := by rw [HF.out y, if_neg (of_decide_eq_false hin)]
        rw [hFy] at hlook
        simp only at hlook
        have HIN := Lib.hid hin
        have HFY := Lib.hid hFy
        clear hin hFy
        go_wp2_with (at_mapUpdate; refine wp_mapPut rfl _ _ _ (.inl rfl) HM.out Try.underlying3 Try.underlying94 rfl rfl HWF.out HFY.out rfl ?_; intro w1 hM1 hG1; have HM1 := Lib.hid hM1; have HB1 := Lib.hid (HB.out.grown hG1 HB.out.size (fun k e => by cases e; exact Nat.le_refl _)); clear hM1 hG1)
        go_roundw
        case rel => exact ⟨k + 1, _, by omega, by go_num, Lib.hid (next_all HA.out (by rw [HY.out]; exact HIN.out)), Lib.hid (twice_end HF.out hkp), Lib.hid (by rw [HY.out]; exact HM1.out), HB1.out⟩
        case measure => simp [intOf]; omega
      · have hFy : F y = some (.bool true) := by rw [HF.out y, if_pos (of_decide_eq_true hin)]
        rw [hFy] at hlook
        simp only at hlook
        have HE : Hid (v = true) := Lib.hid (by rw [HV.out, decide_eq_false (not_nodup hkp (by rw [HY.out]; exact hin))]; rfl)
        clear hin hFy
        go_wp2
        go_ret
        exact ⟨ret_bool HE.out.symm, HB.out⟩
    · obtain rfl : k = len := by omega
      have HE : Hid (v = false) := Lib.hid (by rw [HV.out, decide_eq_true (nodup_of (fun j hj => HA.out j (by rw [HL.out] at hj; exact hj)))]; rfl)
      clear hb
      go_wp2
      go_ret
      exact ⟨ret_bool HE.out.symm, HB.out⟩
end Go.Proofs.Ytldeplmiggbonaa
