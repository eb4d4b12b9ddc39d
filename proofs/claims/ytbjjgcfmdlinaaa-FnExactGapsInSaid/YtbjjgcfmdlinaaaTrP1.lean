/- AreTraces, the program's. -/
import Derived.Test.YtbjjgcfmdlinaaaTrU
import Derived.Test.YtbjjgcfmdlinaaaTrL
import Derived.Test.YtbjjgcfmdlinaaaDelG
import Derived.Test.YtbjjgcfmdlinaaaStepSl
namespace Go.Proofs.Ytbjjgcfmdlinaaa
open Go.RowKit Go.Sort Go.Shelf Go.Lib
theorem noHop_plain : Plain 49 := fun _ _ => by kernel_rfl
theorem noHop_gives (x : Int) (w : World) : FnGives Try.prog 49 #[] #[.int .i64 x] (.bool (noHop x)) w := by
  show Calls Try.prog 49 #[.int .i64 x] w _
  go_enter Try.func49, Try.ntmps49
  go_wp2
  all_goals (go_ret; exact ⟨by simp_all [noHop] <;> rfl, 0, rfl⟩)
theorem hop_any (x : Int) (w : World) : Calls Try.prog 49 #[.int .i64 x] w fun e w' => e = .returned (.bool (noHop x)) ∧ w = w' := by
  go_enter Try.func49, Try.ntmps49
  go_wp2
  all_goals (go_ret; exact ⟨by simp_all [noHop] <;> rfl, rfl⟩)
theorem noHop_says : SaysI 49 noHop := says_gives noHop_plain noHop_gives
theorem noNd_says : SaysI 75 noNd := by
  refine ⟨fun _ _ => by kernel_rfl, fun x w => ?_⟩
  go_enter Try.func75, Try.ntmps75
  go_wp2_with (go_at_call 45; refine (inRange_any _ _ _ _).mono ?_; rintro e w' ⟨rfl, rfl⟩)
  go_ret
  exact ⟨rfl, Below.refl _ _⟩
set_option maxHeartbeats 1600000 in
theorem clone_any (W : World) (a : Option Addr) (len cap : Nat) (zs : List Int) (hl : len ≤ 1073741824) (hs : Sees .i64 W a len zs) :
    Calls Try.prog 73 #[.slice a len cap] W (Made .i64 3 zs W) := by
  have HS := Lib.hid hs
  obtain ⟨i0, hi, hz0, hz1, hz2⟩ := info_parts info_i64
  cases a with
  | none =>
    obtain ⟨rfl, rfl⟩ : len = 0 ∧ zs = [] := by
      rcases hs.2.2 with h0 | ⟨b, off, h, _⟩
      · exact ⟨h0, List.eq_nil_of_length_eq_zero (hs.1.trans h0)⟩
      · cases h
    clear hs
    have hnil := Lib.run_eql_slice_nil (P := Try.prog) W 34 3 none 0 cap 0 0 Try.underlying34
    go_enter Try.func73, Try.ntmps73
    go_wp2
    go_ret
    exact ⟨_, _, _, rfl, ⟨rfl, (fun _ h => by cases h), Nat.le_refl _, ⟨rfl, .inl ⟨rfl, rfl⟩⟩, fun x hx => by cases hx⟩, Below.refl _ _⟩
  | some ad =>
    clear hs
    have hnil := Lib.run_eql_slice_nil (P := Try.prog) W 34 3 (some ad) len cap 0 0 Try.underlying34
    go_enter Try.func73, Try.ntmps73
    go_wp2_with (at_builtin; refine wp_append_sees rfl _ _ 34 rfl 3 i0 .i64 8 Try.underlying34 hi hz0 hz1 hz2 _ _ _ _ rfl _ _ (own_nil _ _ _) _ _ _ _ rfl (HS.out.alloc _) (by unfold maxLen; omega) (by omega) (by simp) ?_; intro a3 len3 cap3 w3 hlen3 ho3 hm3; rw [List.nil_append] at ho3; have HO3 := Lib.hid (ho3.wide (lo2 := W.heap.size) (Nat.le_refl _) (Nat.le_refl _) (Nat.le_refl _)); have HM3 := Lib.hid (below_moved ((Below.refl W.heap.size W).alloc (Nat.le_refl _) _) hm3 (Nat.le_refl _) (Nat.le_refl _)); clear hlen3 ho3 hm3)
    go_ret
    exact ⟨_, _, _, rfl, HO3.out, HM3.out⟩
/-- Those that answered, out of a copy. -/
theorem strikeN_any (B0 : Nat) (W : World) (a : Option Addr) (len cap : Nat) (h : List Int) (hl : len ≤ 1048576) (ho : Own .i64 3 W B0 W.heap.size a len cap h) :
    Calls Try.prog 72 #[.slice a len cap, .func (.func 49) #[] #[]] W fun E w' => ∃ n, E = .returned (.slice a n cap) ∧ n ≤ len ∧ Sees .i64 w' a n (hopsV h) ∧ Moved B0 W.heap.size W w' := by
  by_cases h0 : len = 0
  · subst h0
    obtain rfl : h = [] := List.eq_nil_of_length_eq_zero ho.1
    refine (strikeGE_any noHop_says W a cap).mono ?_
    rintro E w' ⟨rfl, hb⟩
    exact ⟨0, rfl, Nat.le_refl _, ⟨rfl, (fun _ h => by cases h), .inl rfl⟩, Moved.of_below hb⟩
  · rcases ho.spot with ⟨_, hz, _⟩ | ⟨g, rfl, _, _, hlc, _⟩
    · exact absurd hz h0
    · refine (strikeG_any noHop_plain noHop_gives W _ _ g len cap h hl ho hlc).mono ?_
      rintro E w' ⟨rfl, ho2, hm⟩
      exact ⟨_, rfl, by have := hopsV_len h; rw [ho.1] at this; exact this, ho2.sees, hm⟩
theorem Moved.cell0 {lo hi b o : Nat} {w w' : World} (h : Moved lo hi w w') (hb : b < lo ∧ b < w.heap.size) : w'.cell? ⟨b, o, none⟩ = w.cell? ⟨b, o, none⟩ := World.cell?_of_block (h.block b hb.2 (by omega))
set_option maxRecDepth 20000 in
set_option maxHeartbeats 1600000 in
theorem noTr_any (W : World) (a : Option Addr) (len cap : Nat) (h : List Int) (hl : len ≤ 1048576) (hs : Sees .i64 W a len h) :
    Calls Try.prog 40 #[.agg #[.slice a len cap]] W fun e w' => e = .returned (.bool (!trOk h)) ∧ Below W.heap.size W w' := by
  have HL := Lib.hid hs.1
  obtain ⟨V, hV⟩ : ∃ V, V = W.alloc (.cells #[.slice a len cap] 36) := ⟨_, rfl⟩
  have HBV : Hid (Below W.heap.size W V) := Lib.hid (by rw [hV]; exact below_newT _ _)
  have HVL : Hid (W.heap.size < V.heap.size) := Lib.hid (by rw [hV]; simp)
  have HZV : Hid (W.heap.size ≤ V.heap.size) := Lib.hid (Nat.le_of_lt HVL.out)
  have c0 : V.cell? ⟨W.heap.size, 0, none⟩ = some (.slice a len cap) := by rw [hV]; go_simp
  have HS := Lib.hid (hs.below HBV.out)
  clear hs
  obtain ⟨v, hv⟩ : ∃ v : Bool, v = !trOk h := ⟨_, rfl⟩
  rw [← hv]
  have HV : Hid (v = !(decide (len ≤ 8) && (!((hopsV h).any noNd) && decide (hopsV h).Nodup))) := Lib.hid (by rw [hv, trOk_prog, HL.out])
  clear hv
  by_cases h8 : (8 : Int) < (len : Int)
  · have HE : Hid (true = v) := Lib.hid (by rw [HV.out, decide_eq_false (by omega)]; rfl)
    go_enter Try.func40, Try.ntmps40
    go_wp2_with fail
    rw [← hV]
    clear hV
    go_wp2_with (first
      | (go_at_call 73; refine (clone_any _ a len cap h (by omega) HS.out).mono ?_; rintro e w1 ⟨a1, l1, c1, rfl, ho1, hb1⟩; obtain rfl : len = l1 := HL.out.symm.trans ho1.1; have HO1 := Lib.hid ho1; have HB1 := Lib.hid (below_up HBV.out hb1 (Nat.le_refl _)); have HC1 := Lib.hid ((hb1.cell (p := ⟨W.heap.size, 0, none⟩) HVL.out).trans c0); have HZ1 := Lib.hid hb1.size; clear ho1 hb1)
      | (go_at_call 72; refine (strikeN_any _ _ _ _ _ h hl HO1.out).mono ?_; rintro e w2 ⟨n, rfl, hn, hs2, hm2⟩; have HS2 := Lib.hid hs2; have HB2 := Lib.hid (below_moved HB1.out hm2 (Nat.le_refl _) HZV.out); have c0 := (hm2.cell0 ⟨HVL.out, Nat.lt_of_lt_of_le HVL.out HZ1.out⟩).trans HC1.out; clear hs2 hm2)
      )
    go_ret
    exact ⟨ret_bool HE.out, HB2.out⟩
  cases h1 : (hopsV h).any noNd
  rotate_left
  · have H1 := Lib.hid h1
    have HE : Hid (true = v) := Lib.hid (by rw [HV.out, h1]; simp)
    clear h1
    go_enter Try.func40, Try.ntmps40
    go_wp2_with fail
    rw [← hV]
    clear hV
    go_wp2_with (first
      | (go_at_call 73; refine (clone_any _ a len cap h (by omega) HS.out).mono ?_; rintro e w1 ⟨a1, l1, c1, rfl, ho1, hb1⟩; obtain rfl : len = l1 := HL.out.symm.trans ho1.1; have HO1 := Lib.hid ho1; have HB1 := Lib.hid (below_up HBV.out hb1 (Nat.le_refl _)); have HC1 := Lib.hid ((hb1.cell (p := ⟨W.heap.size, 0, none⟩) HVL.out).trans c0); have HZ1 := Lib.hid hb1.size; clear ho1 hb1)
      | (go_at_call 72; refine (strikeN_any _ _ _ _ _ h hl HO1.out).mono ?_; rintro e w2 ⟨n, rfl, hn, hs2, hm2⟩; have HS2 := Lib.hid hs2; have HB2 := Lib.hid (below_moved HB1.out hm2 (Nat.le_refl _) HZV.out); have c0 := (hm2.cell0 ⟨HVL.out, Nat.lt_of_lt_of_le HVL.out HZ1.out⟩).trans HC1.out; clear hs2 hm2)
      | (go_at_call 74; refine (hasI_any noNd_says _ _ n _ _ (by omega) HS2.out).mono ?_; rw [H1.out]; rintro e w3 ⟨rfl, hb3⟩; have HB3 := Lib.hid (below_up HB2.out hb3 (Nat.le_refl _)); clear hb3)
      )
    go_ret
    exact ⟨ret_bool HE.out, HB3.out⟩
  cases h2 : (!decide (hopsV h).Nodup)
  · have H1 := Lib.hid h1
    have H2 := Lib.hid h2
    have HE : Hid (false = v) := Lib.hid (by rw [HV.out, h1, decide_eq_true (show len ≤ 8 by omega)]; simpa using h2)
    clear h1 h2
    go_enter Try.func40, Try.ntmps40
    go_wp2_with fail
    rw [← hV]
    clear hV
    go_wp2_with (first
      | (go_at_call 73; refine (clone_any _ a len cap h (by omega) HS.out).mono ?_; rintro e w1 ⟨a1, l1, c1, rfl, ho1, hb1⟩; obtain rfl : len = l1 := HL.out.symm.trans ho1.1; have HO1 := Lib.hid ho1; have HB1 := Lib.hid (below_up HBV.out hb1 (Nat.le_refl _)); have HC1 := Lib.hid ((hb1.cell (p := ⟨W.heap.size, 0, none⟩) HVL.out).trans c0); have HZ1 := Lib.hid hb1.size; clear ho1 hb1)
      | (go_at_call 72; refine (strikeN_any _ _ _ _ _ h hl HO1.out).mono ?_; rintro e w2 ⟨n, rfl, hn, hs2, hm2⟩; have HS2 := Lib.hid hs2; have HB2 := Lib.hid (below_moved HB1.out hm2 (Nat.le_refl _) HZV.out); have c0 := (hm2.cell0 ⟨HVL.out, Nat.lt_of_lt_of_le HVL.out HZ1.out⟩).trans HC1.out; clear hs2 hm2)
      | (go_at_call 74; refine (hasI_any noNd_says _ _ n _ _ (by omega) HS2.out).mono ?_; rw [H1.out]; rintro e w3 ⟨rfl, hb3⟩; have HB3 := Lib.hid (below_up HB2.out hb3 (Nat.le_refl _)); have HS3 := Lib.hid (HS2.out.below hb3); clear hb3)
      | (go_at_call 76; refine (twice_any _ _ n _ _ (by omega) HS3.out).mono ?_; rw [H2.out]; rintro e w4 ⟨rfl, hb4⟩; have HB4 := Lib.hid (below_up HB3.out hb4 (Nat.le_refl _)); clear hb4)
      )
    go_ret
    exact ⟨ret_bool ((decide_eq_false (Int.not_lt.2 h8)).trans HE.out), HB4.out⟩
  · have H1 := Lib.hid h1
    have H2 := Lib.hid h2
    have HE : Hid (true = v) := Lib.hid (by rw [HV.out, h1, decide_eq_true (show len ≤ 8 by omega)]; simpa using h2)
    clear h1 h2
    go_enter Try.func40, Try.ntmps40
    go_wp2_with fail
    rw [← hV]
    clear hV
    go_wp2_with (first
      | (go_at_call 73; refine (clone_any _ a len cap h (by omega) HS.out).mono ?_; rintro e w1 ⟨a1, l1, c1, rfl, ho1, hb1⟩; obtain rfl : len = l1 := HL.out.symm.trans ho1.1; have HO1 := Lib.hid ho1; have HB1 := Lib.hid (below_up HBV.out hb1 (Nat.le_refl _)); have HC1 := Lib.hid ((hb1.cell (p := ⟨W.heap.size, 0, none⟩) HVL.out).trans c0); have HZ1 := Lib.hid hb1.size; clear ho1 hb1)
      | (go_at_call 72; refine (strikeN_any _ _ _ _ _ h hl HO1.out).mono ?_; rintro e w2 ⟨n, rfl, hn, hs2, hm2⟩; have HS2 := Lib.hid hs2; have HB2 := Lib.hid (below_moved HB1.out hm2 (Nat.le_refl _) HZV.out); have c0 := (hm2.cell0 ⟨HVL.out, Nat.lt_of_lt_of_le HVL.out HZ1.out⟩).trans HC1.out; clear hs2 hm2)
      | (go_at_call 74; refine (hasI_any noNd_says _ _ n _ _ (by omega) HS2.out).mono ?_; rw [H1.out]; rintro e w3 ⟨rfl, hb3⟩; have HB3 := Lib.hid (below_up HB2.out hb3 (Nat.le_refl _)); have HS3 := Lib.hid (HS2.out.below hb3); clear hb3)
      | (go_at_call 76; refine (twice_any _ _ n _ _ (by omega) HS3.out).mono ?_; rw [H2.out]; rintro e w4 ⟨rfl, hb4⟩; have HB4 := Lib.hid (below_up HB3.out hb4 (Nat.le_refl _)); clear hb4)
      )
    go_ret
    exact ⟨ret_bool HE.out, HB4.out⟩
/-- A plain function that says of a trace whether p holds of its hops. -/
def SaysT (K : Nat) (p : List Int → Bool) : Prop := Plain K ∧ ∀ (a : Option Addr) (len cap : Nat) (zs : List Int) (w : World), len ≤ 1048576 → Sees .i64 w a len zs → Calls Try.prog K #[.agg #[.slice a len cap]] w fun e w' => e = .returned (.bool (p zs)) ∧ Below w.heap.size w w'
set_option maxHeartbeats 1600000 in
theorem idxTr_any {K : Nat} {p : List Int → Bool} (hK : SaysT K p) (W : World) (a : Option Addr) (len cap : Nat) (ms : List (List Int)) (hsm : SmallM ms) (hs : SeesM W a len ms) :
    Calls Try.prog 71 #[.slice a len cap, .func (.func K) #[] #[]] W fun e w' => e = .returned (.int .i64 (idxG p ms)) ∧ Below W.heap.size W w' := by
  have HS := Lib.hid hs
  have HL := Lib.hid hs.1
  have HK := Lib.hid hK.2
  have HPL := Lib.hid hK.1
  have HM := Lib.hid hsm
  have hl : len ≤ 1048576 := by unfold SmallM at hsm; have := hs.1; omega
  clear hs hK hsm
  obtain ⟨v, hv⟩ : ∃ v : Int, v = idxG p ms := ⟨_, rfl⟩
  rw [← hv]
  have HV := Lib.hid hv
  clear hv
  go_enter Try.func71, Try.ntmps71
  go_wp2
  go_loopw [8, 5] (fun i _ wr => ∃ k : Nat, k ≤ len ∧ i = .int .i64 k ∧ Hid (∀ j, j < k → p (row ms j) = false) ∧ Below W.heap.size W wr) (fun i _ _ => len - (intOf i).toNat)
  case atStart => exact ⟨0, Nat.zero_le _, rfl, Lib.hid (fun j hj => by omega), Below.refl _ _⟩
  case round =>
    obtain ⟨k, hk, rfl, HZ, hb⟩ := hrel
    have HB := Lib.hid hb
    by_cases hlt : k < len
    · obtain ⟨b5, off5, ar, cr, rfl, hbl, hc, _, _, hsr⟩ := HS.out.2 k hlt
      have hcw := (hb.cell (p := ⟨b5, off5 + k, none⟩) hbl).trans hc
      obtain ⟨zs, hzs⟩ : ∃ zs, zs = row ms k := ⟨_, rfl⟩
      have hzl : zs.length ≤ 1048576 := by have := HM.out.row (r := k) (by rw [HL.out]; exact hlt); rw [hzs]; omega
      rw [← hzs] at hcw hsr
      have HX := Lib.hid hzs
      have HSR := Lib.hid (hsr.below hb)
      clear hc hsr hb hzs
      cases hp : p zs
      · have HP := Lib.hid hp
        clear hp
        have hcf := HPL.out #[.agg #[.slice ar zs.length cr]] wr
        go_wp2_with (refine (HK.out ar _ cr zs _ hzl HSR.out).mono ?_; rw [HP.out]; rintro e w2 ⟨rfl, hb2⟩; have HB2 := Lib.hid (below_up HB.out hb2 (Nat.le_refl _)); clear hb2)
        go_roundw
        case rel => exact ⟨k + 1, by omega, by go_num, Lib.hid (fun j hj => by rcases Nat.lt_or_eq_of_le (Nat.lt_succ_iff.1 hj) with h | h; exact HZ.out j h; subst h; rw [← HX.out]; exact HP.out), HB2.out⟩
        case measure => simp [intOf]; omega
      · have HP := Lib.hid hp
        clear hp
        have HE : Hid (v = k) := Lib.hid (by rw [HV.out]; exact idxG_at [] (by rw [HL.out]; exact hlt) (by show p (row ms k) = true; rw [← HX.out]; exact HP.out) HZ.out)
        have hcf := HPL.out #[.agg #[.slice ar zs.length cr]] wr
        go_wp2_with (refine (HK.out ar _ cr zs _ hzl HSR.out).mono ?_; rw [HP.out]; rintro e w2 ⟨rfl, hb2⟩; have HB2 := Lib.hid (below_up HB.out hb2 (Nat.le_refl _)); clear hb2)
        go_ret
        exact ⟨ret_int HE.out.symm, HB2.out⟩
    · obtain rfl : k = len := by omega
      have HE : Hid (v = -1) := Lib.hid (by rw [HV.out]; exact idxG_none [] (fun j hj => HZ.out j (by rw [HL.out] at hj; exact hj)))
      clear hb
      go_wp2
      go_ret
      exact ⟨ret_int HE.out.symm, HB.out⟩
theorem hasTr_any {K : Nat} {p : List Int → Bool} (hK : SaysT K p) (W : World) (a : Option Addr) (len cap : Nat) (ms : List (List Int)) (hsm : SmallM ms) (hs : SeesM W a len ms) :
    Calls Try.prog 39 #[.slice a len cap, .func (.func K) #[] #[]] W fun e w' => e = .returned (.bool (ms.any p)) ∧ Below W.heap.size W w' := by
  have HX := Lib.hid (idxTr_any hK W a len cap ms hsm hs)
  have HC := Lib.hid (idxG_any p ms)
  obtain ⟨i, hi⟩ : ∃ i, idxG p ms = i := ⟨_, rfl⟩
  rw [hi] at HC HX
  rw [← HC.out]
  clear hi hs hK
  go_enter Try.func39, Try.ntmps39
  go_wp2_with (go_at_call 71; refine HX.out.mono ?_; rintro e w1 ⟨rfl, hb1⟩; have HB1 := Lib.hid hb1; clear hb1)
  go_ret
  exact ⟨rfl, HB1.out⟩
theorem noTr_says : SaysT 40 (fun h => !trOk h) := ⟨fun _ _ => by kernel_rfl, fun a len cap zs w hl hs => noTr_any w a len cap zs hl hs⟩
set_option maxHeartbeats 1600000 in
theorem areTP_any (W : World) (a : Option Addr) (len cap : Nat) (ms : List (List Int)) (hsm : SmallM ms) (hs : SeesM W a len ms) :
    Calls Try.prog 12 #[.slice a len cap] W fun e w' => e = .returned (.bool (areT ms)) ∧ Below W.heap.size W w' := by
  have HS := Lib.hid hs
  have HM := Lib.hid hsm
  obtain ⟨v, hv⟩ : ∃ v, v = areT ms := ⟨_, rfl⟩
  rw [← hv]
  have HV : Hid (v = (decide (len ≤ 8) && !(ms.any (fun h => !trOk h)))) := Lib.hid (by rw [hv, areT_prog, hs.1])
  clear hv hs hsm
  by_cases h8 : (len : Int) ≤ 8
  · cases h1 : ms.any (fun h => !trOk h)
    · have H1 := Lib.hid h1
      have HE : Hid (true = v) := Lib.hid (by rw [HV.out, h1, decide_eq_true (show len ≤ 8 by omega)]; rfl)
      clear h1
      go_enter Try.func12, Try.ntmps12
      go_wp2_with (go_at_call 39; refine (hasTr_any noTr_says _ a len cap ms HM.out HS.out).mono ?_; rw [H1.out]; rintro e w1 ⟨rfl, hb1⟩; have HB1 := Lib.hid hb1; clear hb1)
      go_ret
      exact ⟨ret_bool HE.out, HB1.out⟩
    · have H1 := Lib.hid h1
      have HE : Hid (false = v) := Lib.hid (by rw [HV.out, h1, decide_eq_true (show len ≤ 8 by omega)]; rfl)
      clear h1
      go_enter Try.func12, Try.ntmps12
      go_wp2_with (go_at_call 39; refine (hasTr_any noTr_says _ a len cap ms HM.out HS.out).mono ?_; rw [H1.out]; rintro e w1 ⟨rfl, hb1⟩; have HB1 := Lib.hid hb1; clear hb1)
      go_ret
      exact ⟨ret_bool HE.out, HB1.out⟩
  · have HE : Hid (false = v) := Lib.hid (by rw [HV.out, decide_eq_false (show ¬ len ≤ 8 by omega)]; rfl)
    go_enter Try.func12, Try.ntmps12
    go_wp2
    go_ret
    exact ⟨ret_bool HE.out, Below.refl _ _⟩
end Go.Proofs.Ytbjjgcfmdlinaaa
/- GapsIn, the program's. -/
namespace Go.Proofs.Ytbjjgcfmdlinaaa
open Go.RowKit
set_option maxRecDepth 20000 in
set_option maxHeartbeats 1600000 in
theorem gapP_any (W : World) (a : Option Addr) (len cap : Nat) (ms : List (List Int)) (hsm : SmallM ms) (hs : SeesM W a len ms) :
    Calls Try.prog 17 #[.slice a len cap] W fun e w' => e = .returned (.int .i64 (gapV ms)) ∧ Below W.heap.size W w' := by
  have HS := Lib.hid hs
  have HL := Lib.hid hs.1
  have HG : Hid (∀ i k, i < len → k ≤ (row ms i).length → gapK ms i + gapR (row ms i) k ≤ 1048576) := Lib.hid (fun i k hi hk => by
    have h1 := gapK_le ms i
    have h2 := gapR_le (row ms i) k
    have h3 := hsm.row (r := i) (by rw [hs.1]; exact hi)
    have h4 := hsm
    unfold SmallM at h4
    omega)
  have HZL : Hid (∀ i, i < len → (row ms i).length ≤ 1048576) := Lib.hid (fun i hi => by
    have h3 := hsm.row (r := i) (by rw [hs.1]; exact hi)
    have h4 := hsm
    unfold SmallM at h4
    omega)
  have hl : len ≤ 1048576 := by unfold SmallM at hsm; have := hs.1; omega
  obtain ⟨v, hv⟩ : ∃ v, v = gapV ms := ⟨_, rfl⟩
  rw [← hv]
  have HV := Lib.hid hv
  clear hs hv hsm
  go_enter Try.func17, Try.ntmps17
  go_wp2
  go_loopw [3, 10, 5] (fun n s _ wr => ∃ i : Nat, i ≤ len ∧ n = .int .i64 (gapK ms i : Nat) ∧ s = .int .i64 i ∧ Below W.heap.size W wr) (fun _ s _ _ => len - (intOf s).toNat)
  case atStart => exact ⟨0, Nat.zero_le _, rfl, rfl, Below.refl _ _⟩
  case round =>
    obtain ⟨i, hi, rfl, rfl, hbr⟩ := hrel
    obtain ⟨Vr, rfl⟩ : ∃ V, V = wr := ⟨_, rfl⟩
    by_cases hlt : i < len
    · obtain ⟨b, off, ar, cr, rfl, hbl, hc, hle, hcm, hsr⟩ := HS.out.2 i hlt
      obtain ⟨zk, hzk⟩ : ∃ zk, zk = row ms i := ⟨_, rfl⟩
      have hcw := (hbr.cell (p := ⟨b, off + i, none⟩) hbl).trans hc
      rw [← hzk] at hcw hle hsr
      have HZ := Lib.hid (hsr.below hbr)
      have HBR := Lib.hid hbr
      have HB : Hid (∀ k, k ≤ zk.length → gapK ms i + gapR zk k ≤ 1048576) := Lib.hid (fun k hk => by rw [hzk] at hk ⊢; exact HG.out i k hlt hk)
      have hzl : zk.length ≤ 1048576 := by rw [hzk]; exact HZL.out i hlt
      have HN : Hid (gapK ms (i + 1) = gapK ms i + gapR zk zk.length) := Lib.hid (by rw [hzk]; rfl)
      have i0 : (0 : Int) ≤ (i : Int) := by omega
      have i1 : (i : Int) < (len : Int) := by omega
      clear hcm hsr hzk hc hbr
      go_wp2_with fail
      obtain ⟨U, hU⟩ : ∃ U, U = Vr.alloc (.cells #[.slice ar zk.length cr] 36) := ⟨_, rfl⟩
      have HBU : Hid (Below W.heap.size W U) := Lib.hid (by rw [hU]; exact HBR.out.alloc HBR.out.size _)
      have HZU : Hid (Sees .i64 U ar zk.length zk) := Lib.hid (by rw [hU]; exact HZ.out.below (below_newT _ _))
      rw [← hU]
      clear hU
      go_loopw [3, 17, 7] (fun n s _ w => ∃ k : Nat, k ≤ zk.length ∧ n = .int .i64 (gapK ms i + gapR zk k : Nat) ∧ s = .int .i64 k ∧ w = U) (fun _ s _ _ => zk.length - (intOf s).toNat)
      case atStart => exact ⟨0, Nat.zero_le _, by simp [gapR], rfl, rfl⟩
      case round =>
        obtain ⟨k, hk, rfl, rfl, rfl⟩ := hrel
        by_cases hkl : k < zk.length
        · rcases HZU.out.2.2 with h0 | ⟨b2, o2, rfl, hb2, hcs⟩
          · omega
          have cx := hcs k hkl
          obtain ⟨x, hx⟩ : ∃ x, x = zk.getD k 0 := ⟨_, rfl⟩
          rw [← hx] at cx
          have hbd := HB.out (k + 1) hkl
          obtain ⟨n, hn⟩ : ∃ n, n = gapK ms i + gapR zk k := ⟨_, rfl⟩
          rw [← hn]
          have k0 : (0 : Int) ≤ (k : Int) := by omega
          have k1 : (k : Int) < (zk.length : Int) := by omega
          cases hx1 : noHop x
          · have HX1 := Lib.hid hx1
            have HE : Hid (gapK ms i + gapR zk (k + 1) = n) := Lib.hid (by simp only [gapR]; rw [← hx, if_neg (of_decide_eq_false hx1)]; omega)
            clear hcs hx hn hbd hx1
            go_wp2_with (go_at_call 49; refine (hop_any x _).mono ?_; rw [HX1.out]; rintro e w2 ⟨rfl, rfl⟩)
            go_roundw
            case rel => exact ⟨k + 1, hkl, by rw [HE.out], by go_num, trivial⟩
            case measure => simp [intOf]; omega
          · have HX1 := Lib.hid hx1
            have HE : Hid (gapK ms i + gapR zk (k + 1) = n + 1) := Lib.hid (by simp only [gapR]; rw [← hx, if_pos (of_decide_eq_true hx1)]; omega)
            have wn : IntKind.i64.wrap ((n : Int) + 1) = ((n + 1 : Nat) : Int) := (IntWalk.i64_in _ (by have := HE.out; omega)).trans (by omega)
            clear hcs hx hn hbd hx1
            go_wp2_with (go_at_call 49; refine (hop_any x _).mono ?_; rw [HX1.out]; rintro e w2 ⟨rfl, rfl⟩)
            go_roundw
            case rel => exact ⟨k + 1, hkl, by rw [HE.out]; go_num, by go_num, trivial⟩
            case measure => simp [intOf]; omega
        · obtain rfl : k = zk.length := by omega
          go_wp2
          go_roundw
          case rel => exact ⟨i + 1, hlt, by rw [HN.out], by go_num, HBU.out⟩
          case measure => simp [intOf]; omega
    · obtain rfl : i = len := by omega
      have HBR := Lib.hid hbr
      clear hbr
      go_wp2
      go_ret
      exact ⟨ret_int (by rw [HV.out, gapV, HL.out]), HBR.out⟩
end Go.Proofs.Ytbjjgcfmdlinaaa
