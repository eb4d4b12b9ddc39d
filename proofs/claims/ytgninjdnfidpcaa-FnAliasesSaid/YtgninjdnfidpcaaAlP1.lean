/- AreReplies, the program's. -/
import Derived.Test.YtgninjdnfidpcaaAlM
import Derived.Test.YtgninjdnfidpcaaIdxG
import Derived.Test.YtgninjdnfidpcaaTwP
import Derived.StillTailTactics
namespace Go.Proofs.Ytgninjdnfidpcaa
open Go.RowKit
/-- A plain function that says of a reply whether p holds. -/
def SaysY (K : Nat) (p : Int × Int × Int → Bool) : Prop := Plain K ∧ ∀ (x y z : Int) (w : World), Calls Try.prog K #[.agg #[.int .i64 x, .int .i64 y, .int .i64 z]] w fun e w' => e = .returned (.bool (p (x, y, z))) ∧ Below w.heap.size w w'
set_option maxHeartbeats 1600000 in
theorem idxY_any {K : Nat} {p : Int × Int × Int → Bool} (hK : SaysY K p) (W : World) (a : Option Addr) (len cap : Nat) (xs : List (Int × Int × Int)) (hl : len ≤ 1073741824) (hs : SeesY W a len xs) :
    Calls Try.prog 102 #[.slice a len cap, .func (.func K) #[] #[]] W fun e w' => e = .returned (.int .i64 (idxG p xs)) ∧ Below W.heap.size W w' := by
  have HS := Lib.hid hs
  have HL := Lib.hid hs.1
  have HK := Lib.hid hK.2
  have HPL := Lib.hid hK.1
  clear hs hK
  obtain ⟨v, hv⟩ : ∃ v : Int, v = idxG p xs := ⟨_, rfl⟩
  rw [← hv]
  have HV := Lib.hid hv
  clear hv
  go_enter Try.func102, Try.ntmps102
  go_wp2
  go_loopw [8, 5] (fun i _ wr => ∃ k : Nat, k ≤ len ∧ i = .int .i64 k ∧ Hid (∀ j, j < k → p (xs.getD j (0, 0, 0)) = false) ∧ Below W.heap.size W wr) (fun i _ _ => len - (intOf i).toNat)
  case atStart => exact ⟨0, Nat.zero_le _, rfl, Lib.hid (fun j hj => by omega), Below.refl _ _⟩
  case round =>
    obtain ⟨k, hk, rfl, HZ, hb⟩ := hrel
    have HB := Lib.hid hb
    by_cases hlt : k < len
    · rcases HS.out.2.2 with h0 | ⟨b, off, rfl, hbB, hcell⟩
      · omega
      · have hc0 := (hb.cell (p := ⟨b, off + k * 3, none⟩) hbB).trans (hcell k hlt).1
        have hc1 := (hb.cell (p := ⟨b, off + k * 3 + 1, none⟩) hbB).trans (hcell k hlt).2.1
        have hc2 := (hb.cell (p := ⟨b, off + k * 3 + 2, none⟩) hbB).trans (hcell k hlt).2.2
        obtain ⟨x, y, z, hxy⟩ : ∃ x y z, xs.getD k (0, 0, 0) = (x, y, z) := ⟨_, _, _, rfl⟩
        rw [hxy] at hc0 hc1 hc2
        have HX := Lib.hid hxy
        clear hcell hxy hb
        cases hp : p (x, y, z)
        · have HP := Lib.hid hp
          clear hp
          have hcf := HPL.out #[.agg #[.int .i64 x, .int .i64 y, .int .i64 z]] wr
          go_wp2_with (refine (HK.out x y z _).mono ?_; rw [HP.out]; rintro e w2 ⟨rfl, hb2⟩; have HB2 := Lib.hid (below_up HB.out hb2 (Nat.le_refl _)); clear hb2)
          go_roundw
          case rel => exact ⟨k + 1, by omega, by go_num, Lib.hid (fun j hj => by rcases Nat.lt_or_eq_of_le (Nat.lt_succ_iff.1 hj) with h | h; exact HZ.out j h; subst h; rw [HX.out]; exact HP.out), HB2.out⟩
          case measure => simp [intOf]; omega
        · have HP := Lib.hid hp
          clear hp
          have HE : Hid (v = k) := Lib.hid (by rw [HV.out]; exact idxG_at (0, 0, 0) (by rw [HL.out]; exact hlt) (by rw [HX.out]; exact HP.out) HZ.out)
          have hcf := HPL.out #[.agg #[.int .i64 x, .int .i64 y, .int .i64 z]] wr
          go_wp2_with (refine (HK.out x y z _).mono ?_; rw [HP.out]; rintro e w2 ⟨rfl, hb2⟩; have HB2 := Lib.hid (below_up HB.out hb2 (Nat.le_refl _)); clear hb2)
          go_ret
          exact ⟨ret_int HE.out.symm, HB2.out⟩
    · obtain rfl : k = len := by omega
      have HE : Hid (v = -1) := Lib.hid (by rw [HV.out]; exact idxG_none (0, 0, 0) (fun j hj => HZ.out j (by rw [HL.out] at hj; exact hj)))
      clear hb
      go_wp2
      go_ret
      exact ⟨ret_int HE.out.symm, HB.out⟩
theorem hasY_any {K : Nat} {p : Int × Int × Int → Bool} (hK : SaysY K p) (W : World) (a : Option Addr) (len cap : Nat) (xs : List (Int × Int × Int)) (hl : len ≤ 1073741824) (hs : SeesY W a len xs) :
    Calls Try.prog 74 #[.slice a len cap, .func (.func K) #[] #[]] W fun e w' => e = .returned (.bool (xs.any p)) ∧ Below W.heap.size W w' := by
  have HX := Lib.hid (idxY_any hK W a len cap xs hl hs)
  have HC := Lib.hid (idxG_any p xs)
  obtain ⟨i, hi⟩ : ∃ i, idxG p xs = i := ⟨_, rfl⟩
  rw [hi] at HC HX
  rw [← HC.out]
  clear hi hs hK
  go_enter Try.func74, Try.ntmps74
  go_wp2_with (go_at_call 102; refine HX.out.mono ?_; rintro e w1 ⟨rfl, hb1⟩; have HB1 := Lib.hid hb1; clear hb1)
  go_ret
  exact ⟨rfl, HB1.out⟩
def noRep (p : Int × Int × Int) : Bool := !repOk p
theorem stampY_any (n : Int) (w : World) : Calls Try.prog 112 #[.int .i64 n] w fun e w' => e = .returned (.bool (inR n 0 100000)) ∧ w = w' := by
  go_enter Try.func112, Try.ntmps112
  go_wp2_with (go_at_call 58; refine (inRange_any _ _ _ _).mono ?_; rintro e w' ⟨rfl, rfl⟩)
  go_ret
  exact ⟨rfl, rfl⟩
theorem noStY_any (n : Int) (w : World) : Calls Try.prog 103 #[.int .i64 n] w fun e w' => e = .returned (.bool (!inR n 0 100000)) ∧ w = w' := by
  go_enter Try.func103, Try.ntmps103
  go_wp2_with (go_at_call 112; refine (stampY_any _ _).mono ?_; rintro e w' ⟨rfl, rfl⟩)
  go_ret
  exact ⟨rfl, rfl⟩
set_option maxHeartbeats 1600000 in
theorem noRep_says : SaysY 75 noRep := by
  refine ⟨fun _ _ => by kernel_rfl, fun x y z w => ?_⟩
  obtain ⟨V, hV⟩ : ∃ V, V = w.alloc (.cells #[.int .i64 x, .int .i64 y, .int .i64 z] 86) := ⟨_, rfl⟩
  have p0 : V.cell? ⟨w.heap.size, 0, none⟩ = some (.int .i64 x) := by rw [hV]; simp
  have p1 : V.cell? ⟨w.heap.size, 1, none⟩ = some (.int .i64 y) := by rw [hV]; simp
  have p2 : V.cell? ⟨w.heap.size, 2, none⟩ = some (.int .i64 z) := by rw [hV]; simp
  have HB := Lib.hid (show Below w.heap.size w V by rw [hV]; exact (Below.refl _ _).alloc (Nat.le_refl _) _)
  cases h0 : inR x 0 20
  · have H0 := Lib.hid h0
    have HE : Hid (true = noRep (x, y, z)) := Lib.hid (by unfold noRep repOk; rw [h0]; rfl)
    clear h0
    go_enter Try.func75, Try.ntmps75
    go_wp2_with fail
    rw [← hV]
    clear hV
    go_wp2_with (first | (go_at_call 58; refine (inRange_any _ _ _ _).mono ?_; rw [H0.out]; rintro e w' ⟨rfl, rfl⟩))
    go_ret
    exact ⟨ret_bool HE.out, HB.out⟩
  · have H0 := Lib.hid h0
    cases h1 : inR y 0 100000
    · have H1 := Lib.hid h1
      have HE : Hid (true = noRep (x, y, z)) := Lib.hid (by unfold noRep repOk; rw [h0, h1]; rfl)
      clear h0 h1
      go_enter Try.func75, Try.ntmps75
      go_wp2_with fail
      rw [← hV]
      clear hV
      go_wp2_with (first | (go_at_call 58; refine (inRange_any _ _ _ _).mono ?_; rw [H0.out]; rintro e w' ⟨rfl, rfl⟩) | (go_at_call 103; refine (noStY_any _ _).mono ?_; rw [H1.out]; rintro e w' ⟨rfl, rfl⟩))
      go_ret
      exact ⟨ret_bool HE.out, HB.out⟩
    · have H1 := Lib.hid h1
      obtain ⟨t, ht⟩ : ∃ t, inR z 0 100000 = t := ⟨_, rfl⟩
      have H2 := Lib.hid ht
      have HE : Hid ((!t) = noRep (x, y, z)) := Lib.hid (by unfold noRep repOk; rw [h0, h1, ht]; simp)
      clear h0 h1 ht
      go_enter Try.func75, Try.ntmps75
      go_wp2_with fail
      rw [← hV]
      clear hV
      go_wp2_with (first | (go_at_call 58; refine (inRange_any _ _ _ _).mono ?_; rw [H0.out]; rintro e w' ⟨rfl, rfl⟩) | (go_at_call 103; refine (noStY_any _ _).mono ?_; (first | rw [H1.out] | rw [H2.out]); rintro e w' ⟨rfl, rfl⟩))
      go_ret
      exact ⟨ret_bool HE.out, HB.out⟩
set_option maxHeartbeats 1600000 in
theorem timesP_any (W : World) (a : Option Addr) (len cap : Nat) (xs : List (Int × Int × Int)) (hl : len ≤ 1048576) (hs : SeesY W a len xs) :
    Calls Try.prog 76 #[.slice a len cap] W (Made .i64 3 (xs.map (·.2.1)) W) := by
  have hfit := hs.2.1
  obtain ⟨zs, hzs⟩ : ∃ zs, zs = xs.map (·.2.1) := ⟨_, rfl⟩
  have HXL : Hid (xs.length = len) := Lib.hid hs.1
  have HL : Hid (zs.length = len) := Lib.hid (by rw [hzs, List.length_map]; exact hs.1)
  have HZ : Hid (∀ j, j < len → zs.getD j 0 = (rep xs j).2.1) := Lib.hid (fun j hj => by
    have hjx : j < xs.length := by rw [HXL.out]; exact hj
    rw [hzs]; simp [rep, List.getD, hjx])
  have HF : Hid (∀ j, j < len → (Lit.int .i64 (zs.getD j 0)).wf = true) := Lib.hid (fun j hj => by rw [HZ.out j hj]; exact (hfit _ (rep_mem (by rw [HXL.out]; exact hj))).2.1)
  have HS := Lib.hid hs
  rw [← hzs]
  clear hs hzs hfit
  obtain ⟨i0, hi, hz0, hz1, hz2⟩ := info_parts info_i64
  go_enter Try.func76, Try.ntmps76
  go_wp2_with (at_make; refine wpList_make_full _ rfl _ _ 24 rfl W.heap.size 3 i0 (.int .i64 0) 1 Try.underlying24 hi hz0 hz1 _ _ _ _ len rfl rfl rfl rfl (by rw [hz2]; omega) (by unfold maxLen; omega) (by simp) ?_; intro w1 hown1 hgrow1; have HO1 := Lib.hid (made_row .i64 w1 _ len _ _ hown1); have HB1 := Lib.hid ((Below.refl W.heap.size W).grown hgrow1 (Nat.le_refl _) (fun k e => by cases e)); clear hown1 hgrow1)
  go_loopw [4, 11] (fun _ i wr => ∃ k : Nat, k ≤ len ∧ i = .int .i64 k ∧ Own .i64 3 wr W.heap.size w1.heap.size (some ⟨W.heap.size, 0, none⟩) len len (over zs (List.replicate len 0) k) ∧ Below W.heap.size W wr) (fun _ i _ => len - (intOf i).toNat)
  case atStart => exact ⟨0, Nat.zero_le _, rfl, by rw [over_zero]; exact HO1.out, HB1.out⟩
  case round =>
    obtain ⟨k, hk, rfl, ho, hb⟩ := hrel
    have HO := Lib.hid ho
    have HB := Lib.hid hb
    have hszw := hb.size
    by_cases hlt : k < len
    · obtain ⟨b, o, rfl, hb0, hcs⟩ := HS.out.at hlt
      have c0 := (hb.cell (p := ⟨b, o + k * 3, none⟩) hb0).trans (hcs k hlt).1
      have c1 := (hb.cell (p := ⟨b, o + k * 3 + 1, none⟩) hb0).trans (hcs k hlt).2.1
      have c2 := (hb.cell (p := ⟨b, o + k * 3 + 2, none⟩) hb0).trans (hcs k hlt).2.2
      obtain ⟨x, y, z, hp⟩ : ∃ x y z, rep xs k = (x, y, z) := ⟨_, _, _, rfl⟩
      rw [hp] at c0 c1 c2
      have HY : Hid (zs.getD k 0 = y) := Lib.hid (by rw [HZ.out k hlt, hp])
      have hoA := ho.alloc (.cells #[.int .i64 x, .int .i64 y, .int .i64 z] 86)
      have HOA := Lib.hid hoA
      rcases hoA.spot with ⟨hx, _⟩ | ⟨g, hg, _, _, _, _, hcd0, hfz⟩
      · cases hx
      · obtain rfl : W.heap.size = g := by simpa using hg
        have hcd := hcd0 k hlt
        have hfd := hfz k
        have HBA := Lib.hid (hb.alloc hszw (.cells #[.int .i64 x, .int .i64 y, .int .i64 z] 86))
        clear hcs hcd0 hfz ho hb hg hp hoA
        go_wp2
        go_roundw
        case rel =>
          have hst := HOA.out.stored k (zs.getD k 0) (HF.out k hlt)
          rw [over_set _ _ _ (by rw [HL.out]; simp) (by rw [HL.out]; exact hlt), HY.out] at hst
          exact ⟨k + 1, by omega, by go_num, hst.1, below_moved HBA.out hst.2 (Nat.le_refl _) (Nat.le_refl _)⟩
        case measure => simp [intOf]; omega
    · clear ho hb
      obtain rfl : k = len := by omega
      go_wp2
      go_ret
      have h := HO.out
      have e : over zs (List.replicate k 0) k = zs := by
        have := over_all zs (List.replicate k 0) (by rw [HL.out]; simp)
        rwa [HL.out] at this
      rw [e] at h
      exact ⟨_, _, _, rfl, h.wide (Nat.le_refl _) h.2.2.1 (Nat.le_refl _), HB.out⟩
theorem areR_alt (xs : List (Int × Int × Int)) : areR xs = (decide (xs.length ≤ 12) && (!xs.any noRep && decide (xs.map (·.2.1)).Nodup)) := by
  have e : areR xs = true ↔ (xs.length ≤ 12 ∧ xs.any noRep = false ∧ (xs.map (·.2.1)).Nodup) := by
    rw [areR_true]
    constructor
    · rintro ⟨h, hl⟩
      refine ⟨hl, ?_, ?_⟩
      · refine List.any_eq_false.2 fun p hp => ?_
        obtain ⟨i, hi, rfl⟩ := List.getElem_of_mem hp
        have := (h i hi).1
        simp [rep, List.getD, hi] at this
        simp [noRep, this]
      · refine List.pairwise_iff_getElem.2 fun i j hi hj hij e => ?_
        simp only [List.length_map] at hi hj
        have := (h j hj).2 i hij
        simp only [List.getElem_map] at e
        simp [rep, List.getD, hi, hj] at this
        exact this e
    · rintro ⟨hl, ha, hd⟩
      refine ⟨fun i hi => ⟨?_, fun k hk e => ?_⟩, hl⟩
      · have := List.any_eq_false.1 ha _ (rep_mem hi)
        simpa [noRep] using this
      · have := List.pairwise_iff_getElem.1 hd k i (by simp; omega) (by simpa using hi) hk
        simp only [List.getElem_map] at this
        simp [rep, List.getD, hi, show k < xs.length by omega] at e
        exact this e
  cases h : areR xs
  · cases h2 : (decide (xs.length ≤ 12) && (!xs.any noRep && decide (xs.map (·.2.1)).Nodup))
    · rfl
    · simp only [Bool.and_eq_true, decide_eq_true_eq, Bool.not_eq_true'] at h2
      rw [e.2 h2] at h; cases h
  · have := e.1 h
    rw [decide_eq_true this.1, this.2.1, decide_eq_true this.2.2]
    rfl
set_option maxHeartbeats 1600000 in
theorem areRP_any (W : World) (a : Option Addr) (len cap : Nat) (xs : List (Int × Int × Int)) (hl : len ≤ 1073741824) (hs : SeesY W a len xs) :
    Calls Try.prog 36 #[.slice a len cap] W fun e w' => e = .returned (.bool (areR xs)) ∧ Below W.heap.size W w' := by
  have HS := Lib.hid hs
  have HL := Lib.hid hs.1
  obtain ⟨v, hv⟩ : ∃ v, v = areR xs := ⟨_, rfl⟩
  rw [← hv]
  have HV := Lib.hid (hv.trans (areR_alt xs))
  clear hs hv
  by_cases h12 : len ≤ 12
  · have i12 : (len : Int) ≤ 12 := by omega
    have hD : decide (xs.length ≤ 12) = true := decide_eq_true (by rw [HL.out]; exact h12)
    cases h1 : xs.any noRep
    · have H1 := Lib.hid h1
      obtain ⟨t, ht⟩ : ∃ t : Bool, (!decide (xs.map (·.2.1)).Nodup) = t := ⟨_, rfl⟩
      have HT := Lib.hid ht
      have HE : Hid ((!t) = v) := Lib.hid (by rw [HV.out, hD, h1, ← ht]; simp)
      clear h1 ht hD
      go_enter Try.func36, Try.ntmps36
      go_wp2_with (first
        | (go_at_call 74; refine (hasY_any noRep_says _ a len cap xs hl HS.out).mono ?_; rw [H1.out]; rintro e w1 ⟨rfl, hb1⟩; have HB1 := Lib.hid hb1; clear hb1)
        | (go_at_call 76; refine (timesP_any _ a len cap xs (by omega) (HS.out.below HB1.out)).mono ?_; rintro e w2 ⟨a2, l2, c2, rfl, ho2, hb2⟩; have HL2 : Hid (l2 = len) := Lib.hid (by rw [← ho2.1, List.length_map]; exact HL.out); have HO2 := Lib.hid ho2.sees; have HB2 := Lib.hid (below_up HB1.out hb2 (Nat.le_refl _)); clear ho2 hb2)
        | (go_at_call 63; refine (twice_any _ _ _ _ _ (by rw [HL2.out]; exact hl) HO2.out).mono ?_; rw [HT.out]; rintro e w3 ⟨rfl, hb3⟩; have HB3 := Lib.hid (below_up HB2.out hb3 (Nat.le_refl _)); clear hb3))
      go_ret
      exact ⟨ret_bool HE.out, HB3.out⟩
    · have H1 := Lib.hid h1
      have HE : Hid (v = false) := Lib.hid (by rw [HV.out, h1]; simp)
      clear h1 hD
      go_enter Try.func36, Try.ntmps36
      go_wp2_with (first
        | (go_at_call 74; refine (hasY_any noRep_says _ a len cap xs hl HS.out).mono ?_; rw [H1.out]; rintro e w1 ⟨rfl, hb1⟩; have HB1 := Lib.hid hb1; clear hb1))
      go_ret
      exact ⟨ret_bool HE.out.symm, HB1.out⟩
  · have i12 : ¬ (len : Int) ≤ 12 := by omega
    have HE : Hid (v = false) := Lib.hid (by rw [HV.out, decide_eq_false (by rw [HL.out]; exact h12)]; rfl)
    go_enter Try.func36, Try.ntmps36
    go_wp2
    go_ret
    exact ⟨ret_bool HE.out.symm, Below.refl _ _⟩
end Go.Proofs.Ytgninjdnfidpcaa
