/- The library's IndexFunc and ContainsFunc with any plain function: numbers, rows of numbers, intervals. -/
import Derived.Test.YthcinjlghhfhmaaSlV
import Derived.Test.YthcinjlghhfhmaaSlA
namespace Go.Proofs.Ythcinjlghhfhmaa
open Go.RowKit
/-- The first place at which p holds, or -1. -/
def idxG {α : Type} (p : α → Bool) (l : List α) : Int := match l.findIdx? p with
  | some i => (i : Int)
  | none => -1
theorem getD_is {α : Type} {l : List α} {k : Nat} (d : α) (h : k < l.length) : l[k] = l.getD k d := by simp [List.getD, h]
theorem idxG_at {α : Type} {p : α → Bool} {l : List α} {k : Nat} (d : α) (hk : k < l.length) (h1 : p (l.getD k d) = true) (h2 : ∀ j, j < k → p (l.getD j d) = false) : idxG p l = (k : Int) := by
  have h : l.findIdx? p = some k := by
    rw [List.findIdx?_eq_some_iff_getElem]
    exact ⟨hk, by rw [getD_is d hk]; exact h1, fun j hj => by rw [getD_is d (by omega), h2 j hj]; simp⟩
  unfold idxG
  rw [h]
theorem idxG_none {α : Type} {p : α → Bool} {l : List α} (d : α) (h2 : ∀ j, j < l.length → p (l.getD j d) = false) : idxG p l = -1 := by
  have h : l.findIdx? p = none := by
    rw [List.findIdx?_eq_none_iff]
    intro x hx
    obtain ⟨r, hr, rfl⟩ := List.getElem_of_mem hx
    rw [getD_is d hr, h2 r hr]
  unfold idxG
  rw [h]
theorem idxG_any {α : Type} (p : α → Bool) (l : List α) : decide (0 ≤ idxG p l) = l.any p := by
  unfold idxG
  split
  · rename_i i hi
    rw [List.findIdx?_eq_some_iff_getElem] at hi
    obtain ⟨h, h1, _⟩ := hi
    rw [decide_eq_true (by omega)]
    symm
    exact List.any_eq_true.2 ⟨_, List.getElem_mem h, h1⟩
  · rename_i hi
    rw [List.findIdx?_eq_none_iff] at hi
    rw [decide_eq_false (by omega)]
    symm
    exact List.any_eq_false.2 (fun x hx => by rw [hi x hx]; simp)
/-- A function of the program, called by its value. -/
def Plain (K : Nat) : Prop := ∀ (args : Array Value) (w : World), Sem.run Try.prog (callFunc K args) w = .ok (.enter K args) w
/-- A plain function that says of a number whether p holds. -/
def SaysI (K : Nat) (p : Int → Bool) : Prop := Plain K ∧ ∀ (x : Int) (w : World), Calls Try.prog K #[.int .i64 x] w fun e w' => e = .returned (.bool (p x)) ∧ Below w.heap.size w w'
def SaysV (K : Nat) (p : Int × Int → Bool) : Prop := Plain K ∧ ∀ (x y : Int) (w : World), Calls Try.prog K #[.agg #[.int .i64 x, .int .i64 y]] w fun e w' => e = .returned (.bool (p (x, y))) ∧ Below w.heap.size w w'
def SaysR (K : Nat) (p : List Int → Bool) : Prop := Plain K ∧ ∀ (a : Option Addr) (len cap : Nat) (zs : List Int) (w : World), len ≤ 1073741824 → Sees .i64 w a len zs → Calls Try.prog K #[.slice a len cap] w fun e w' => e = .returned (.bool (p zs)) ∧ Below w.heap.size w w'
set_option maxHeartbeats 1600000 in
theorem idxI_any {K : Nat} {p : Int → Bool} (hK : SaysI K p) (W : World) (a : Option Addr) (len cap : Nat) (zs : List Int) (hl : len ≤ 1073741824) (hs : Sees .i64 W a len zs) :
    Calls Try.prog 64 #[.slice a len cap, .func (.func K) #[] #[]] W fun e w' => e = .returned (.int .i64 (idxG p zs)) ∧ Below W.heap.size W w' := by
  have HS := Lib.hid hs
  have HL := Lib.hid hs.1
  have HK := Lib.hid hK.2
  have HPL := Lib.hid hK.1
  clear hs hK
  obtain ⟨v, hv⟩ : ∃ v : Int, v = idxG p zs := ⟨_, rfl⟩
  rw [← hv]
  have HV := Lib.hid hv
  clear hv
  go_enter Try.func64, Try.ntmps64
  go_wp2
  go_loopw [8, 5] (fun i _ wr => ∃ k : Nat, k ≤ len ∧ i = .int .i64 k ∧ Hid (∀ j, j < k → p (zs.getD j 0) = false) ∧ Below W.heap.size W wr) (fun i _ _ => len - (intOf i).toNat)
  case atStart => exact ⟨0, Nat.zero_le _, rfl, Lib.hid (fun j hj => by omega), Below.refl _ _⟩
  case round =>
    obtain ⟨k, hk, rfl, HZ, hb⟩ := hrel
    have HB := Lib.hid hb
    by_cases hlt : k < len
    · rcases HS.out.2.2 with h0 | ⟨b, off, rfl, hbB, hcell⟩
      · omega
      · have hc := (hb.cell (p := ⟨b, off + k, none⟩) hbB).trans (hcell k hlt)
        obtain ⟨x, hx⟩ : ∃ x, x = zs.getD k 0 := ⟨_, rfl⟩
        rw [← hx] at hc
        have HX := Lib.hid hx
        clear hcell hx hb
        cases hp : p x
        · have HP := Lib.hid hp
          clear hp
          have hcf := HPL.out #[.int .i64 x] wr
          go_wp2_with (refine (HK.out x _).mono ?_; rw [HP.out]; rintro e w2 ⟨rfl, hb2⟩; have HB2 := Lib.hid (below_up HB.out hb2 (Nat.le_refl _)); clear hb2)
          go_roundw
          case rel => exact ⟨k + 1, by omega, by go_num, Lib.hid (fun j hj => by rcases Nat.lt_or_eq_of_le (Nat.lt_succ_iff.1 hj) with h | h; exact HZ.out j h; subst h; rw [← HX.out]; exact HP.out), HB2.out⟩
          case measure => simp [intOf]; omega
        · have HP := Lib.hid hp
          clear hp
          have HE : Hid (v = k) := Lib.hid (by rw [HV.out]; exact idxG_at 0 (by rw [HL.out]; exact hlt) (by rw [← HX.out]; exact HP.out) HZ.out)
          have hcf := HPL.out #[.int .i64 x] wr
          go_wp2_with (refine (HK.out x _).mono ?_; rw [HP.out]; rintro e w2 ⟨rfl, hb2⟩; have HB2 := Lib.hid (below_up HB.out hb2 (Nat.le_refl _)); clear hb2)
          go_ret
          exact ⟨ret_int HE.out.symm, HB2.out⟩
    · obtain rfl : k = len := by omega
      have HE : Hid (v = -1) := Lib.hid (by rw [HV.out]; exact idxG_none 0 (fun j hj => HZ.out j (by rw [HL.out] at hj; exact hj)))
      clear hb
      go_wp2
      go_ret
      exact ⟨ret_int HE.out.symm, HB.out⟩
theorem hasI_any {K : Nat} {p : Int → Bool} (hK : SaysI K p) (W : World) (a : Option Addr) (len cap : Nat) (zs : List Int) (hl : len ≤ 1073741824) (hs : Sees .i64 W a len zs) :
    Calls Try.prog 37 #[.slice a len cap, .func (.func K) #[] #[]] W fun e w' => e = .returned (.bool (zs.any p)) ∧ Below W.heap.size W w' := by
  have HX := Lib.hid (idxI_any hK W a len cap zs hl hs)
  have HC := Lib.hid (idxG_any p zs)
  obtain ⟨i, hi⟩ : ∃ i, idxG p zs = i := ⟨_, rfl⟩
  rw [hi] at HC HX
  rw [← HC.out]
  clear hi hs hK
  go_enter Try.func37, Try.ntmps37
  go_wp2_with (go_at_call 64; refine HX.out.mono ?_; rintro e w1 ⟨rfl, hb1⟩; have HB1 := Lib.hid hb1; clear hb1)
  go_ret
  exact ⟨rfl, HB1.out⟩
set_option maxHeartbeats 1600000 in
theorem idxIv_any {K : Nat} {p : Int × Int → Bool} (hK : SaysV K p) (W : World) (a : Option Addr) (len cap : Nat) (xs : List (Int × Int)) (hl : len ≤ 1073741824) (hs : SeesV W a len xs) :
    Calls Try.prog 70 #[.slice a len cap, .func (.func K) #[] #[]] W fun e w' => e = .returned (.int .i64 (idxG p xs)) ∧ Below W.heap.size W w' := by
  have HS := Lib.hid hs
  have HL := Lib.hid hs.1
  have HK := Lib.hid hK.2
  have HPL := Lib.hid hK.1
  clear hs hK
  obtain ⟨v, hv⟩ : ∃ v : Int, v = idxG p xs := ⟨_, rfl⟩
  rw [← hv]
  have HV := Lib.hid hv
  clear hv
  go_enter Try.func70, Try.ntmps70
  go_wp2
  go_loopw [8, 5] (fun i _ wr => ∃ k : Nat, k ≤ len ∧ i = .int .i64 k ∧ Hid (∀ j, j < k → p (xs.getD j (0, 0)) = false) ∧ Below W.heap.size W wr) (fun i _ _ => len - (intOf i).toNat)
  case atStart => exact ⟨0, Nat.zero_le _, rfl, Lib.hid (fun j hj => by omega), Below.refl _ _⟩
  case round =>
    obtain ⟨k, hk, rfl, HZ, hb⟩ := hrel
    have HB := Lib.hid hb
    by_cases hlt : k < len
    · rcases HS.out.2.2 with h0 | ⟨b, off, rfl, hbB, hcell⟩
      · omega
      · have hc0 := (hb.cell (p := ⟨b, off + k * 2, none⟩) hbB).trans (hcell k hlt).1
        have hc1 := (hb.cell (p := ⟨b, off + k * 2 + 1, none⟩) hbB).trans (hcell k hlt).2
        obtain ⟨x, y, hxy⟩ : ∃ x y, xs.getD k (0, 0) = (x, y) := ⟨_, _, rfl⟩
        rw [hxy] at hc0 hc1
        have HX := Lib.hid hxy
        clear hcell hxy hb
        cases hp : p (x, y)
        · have HP := Lib.hid hp
          clear hp
          have hcf := HPL.out #[.agg #[.int .i64 x, .int .i64 y]] wr
          go_wp2_with (refine (HK.out x y _).mono ?_; rw [HP.out]; rintro e w2 ⟨rfl, hb2⟩; have HB2 := Lib.hid (below_up HB.out hb2 (Nat.le_refl _)); clear hb2)
          go_roundw
          case rel => exact ⟨k + 1, by omega, by go_num, Lib.hid (fun j hj => by rcases Nat.lt_or_eq_of_le (Nat.lt_succ_iff.1 hj) with h | h; exact HZ.out j h; subst h; rw [HX.out]; exact HP.out), HB2.out⟩
          case measure => simp [intOf]; omega
        · have HP := Lib.hid hp
          clear hp
          have HE : Hid (v = k) := Lib.hid (by rw [HV.out]; exact idxG_at (0, 0) (by rw [HL.out]; exact hlt) (by rw [HX.out]; exact HP.out) HZ.out)
          have hcf := HPL.out #[.agg #[.int .i64 x, .int .i64 y]] wr
          go_wp2_with (refine (HK.out x y _).mono ?_; rw [HP.out]; rintro e w2 ⟨rfl, hb2⟩; have HB2 := Lib.hid (below_up HB.out hb2 (Nat.le_refl _)); clear hb2)
          go_ret
          exact ⟨ret_int HE.out.symm, HB2.out⟩
    · obtain rfl : k = len := by omega
      have HE : Hid (v = -1) := Lib.hid (by rw [HV.out]; exact idxG_none (0, 0) (fun j hj => HZ.out j (by rw [HL.out] at hj; exact hj)))
      clear hb
      go_wp2
      go_ret
      exact ⟨ret_int HE.out.symm, HB.out⟩
theorem hasIv_any {K : Nat} {p : Int × Int → Bool} (hK : SaysV K p) (W : World) (a : Option Addr) (len cap : Nat) (xs : List (Int × Int)) (hl : len ≤ 1073741824) (hs : SeesV W a len xs) :
    Calls Try.prog 49 #[.slice a len cap, .func (.func K) #[] #[]] W fun e w' => e = .returned (.bool (xs.any p)) ∧ Below W.heap.size W w' := by
  have HX := Lib.hid (idxIv_any hK W a len cap xs hl hs)
  have HC := Lib.hid (idxG_any p xs)
  obtain ⟨i, hi⟩ : ∃ i, idxG p xs = i := ⟨_, rfl⟩
  rw [hi] at HC HX
  rw [← HC.out]
  clear hi hs hK
  go_enter Try.func49, Try.ntmps49
  go_wp2_with (go_at_call 70; refine HX.out.mono ?_; rintro e w1 ⟨rfl, hb1⟩; have HB1 := Lib.hid hb1; clear hb1)
  go_ret
  exact ⟨rfl, HB1.out⟩
set_option maxHeartbeats 1600000 in
theorem idxRw_any {K : Nat} {p : List Int → Bool} (hK : SaysR K p) (W : World) (a : Option Addr) (len cap : Nat) (ms : List (List Int)) (hsm : SmallM ms) (hs : SeesM W a len ms) :
    Calls Try.prog 68 #[.slice a len cap, .func (.func K) #[] #[]] W fun e w' => e = .returned (.int .i64 (idxG p ms)) ∧ Below W.heap.size W w' := by
  have HS := Lib.hid hs
  have HL := Lib.hid hs.1
  have HK := Lib.hid hK.2
  have HPL := Lib.hid hK.1
  have HM := Lib.hid hsm
  have hl : len ≤ 1048576 := by unfold SmallM at hsm; have := hs.1; omega
  clear hs hK hsm
  obtain ⟨v, hv⟩ : ∃ v : Int, v = idxG p ms := ⟨_, rfl⟩
  rw [← hv]
  have HV := Lib.hid hv
  clear hv
  go_enter Try.func68, Try.ntmps68
  go_wp2
  go_loopw [8, 5] (fun i _ wr => ∃ k : Nat, k ≤ len ∧ i = .int .i64 k ∧ Hid (∀ j, j < k → p (row ms j) = false) ∧ Below W.heap.size W wr) (fun i _ _ => len - (intOf i).toNat)
  case atStart => exact ⟨0, Nat.zero_le _, rfl, Lib.hid (fun j hj => by omega), Below.refl _ _⟩
  case round =>
    obtain ⟨k, hk, rfl, HZ, hb⟩ := hrel
    have HB := Lib.hid hb
    by_cases hlt : k < len
    · obtain ⟨b5, off5, ar, cr, rfl, hbl, hc, _, _, hsr⟩ := HS.out.2 k hlt
      have hcw := (hb.cell (p := ⟨b5, off5 + k, none⟩) hbl).trans hc
      obtain ⟨zs, hzs⟩ : ∃ zs, zs = row ms k := ⟨_, rfl⟩
      have hzl : zs.length ≤ 1073741824 := by have := HM.out.row (r := k) (by rw [HL.out]; exact hlt); rw [hzs]; omega
      rw [← hzs] at hcw hsr
      have HX := Lib.hid hzs
      have HSR := Lib.hid (hsr.below hb)
      clear hc hsr hb hzs
      cases hp : p zs
      · have HP := Lib.hid hp
        clear hp
        have hcf := HPL.out #[.slice ar zs.length cr] wr
        go_wp2_with (refine (HK.out ar _ cr zs _ hzl HSR.out).mono ?_; rw [HP.out]; rintro e w2 ⟨rfl, hb2⟩; have HB2 := Lib.hid (below_up HB.out hb2 (Nat.le_refl _)); clear hb2)
        go_roundw
        case rel => exact ⟨k + 1, by omega, by go_num, Lib.hid (fun j hj => by rcases Nat.lt_or_eq_of_le (Nat.lt_succ_iff.1 hj) with h | h; exact HZ.out j h; subst h; rw [← HX.out]; exact HP.out), HB2.out⟩
        case measure => simp [intOf]; omega
      · have HP := Lib.hid hp
        clear hp
        have HE : Hid (v = k) := Lib.hid (by rw [HV.out]; exact idxG_at [] (by rw [HL.out]; exact hlt) (by show p (row ms k) = true; rw [← HX.out]; exact HP.out) HZ.out)
        have hcf := HPL.out #[.slice ar zs.length cr] wr
        go_wp2_with (refine (HK.out ar _ cr zs _ hzl HSR.out).mono ?_; rw [HP.out]; rintro e w2 ⟨rfl, hb2⟩; have HB2 := Lib.hid (below_up HB.out hb2 (Nat.le_refl _)); clear hb2)
        go_ret
        exact ⟨ret_int HE.out.symm, HB2.out⟩
    · obtain rfl : k = len := by omega
      have HE : Hid (v = -1) := Lib.hid (by rw [HV.out]; exact idxG_none [] (fun j hj => HZ.out j (by rw [HL.out] at hj; exact hj)))
      clear hb
      go_wp2
      go_ret
      exact ⟨ret_int HE.out.symm, HB.out⟩
theorem hasRw_any {K : Nat} {p : List Int → Bool} (hK : SaysR K p) (W : World) (a : Option Addr) (len cap : Nat) (ms : List (List Int)) (hsm : SmallM ms) (hs : SeesM W a len ms) :
    Calls Try.prog 47 #[.slice a len cap, .func (.func K) #[] #[]] W fun e w' => e = .returned (.bool (ms.any p)) ∧ Below W.heap.size W w' := by
  have HX := Lib.hid (idxRw_any hK W a len cap ms hsm hs)
  have HC := Lib.hid (idxG_any p ms)
  obtain ⟨i, hi⟩ : ∃ i, idxG p ms = i := ⟨_, rfl⟩
  rw [hi] at HC HX
  rw [← HC.out]
  clear hi hs hK
  go_enter Try.func47, Try.ntmps47
  go_wp2_with (go_at_call 68; refine HX.out.mono ?_; rintro e w1 ⟨rfl, hb1⟩; have HB1 := Lib.hid hb1; clear hb1)
  go_ret
  exact ⟨rfl, HB1.out⟩
end Go.Proofs.Ythcinjlghhfhmaa
