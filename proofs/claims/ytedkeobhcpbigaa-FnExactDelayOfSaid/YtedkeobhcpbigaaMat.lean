/- Matrices: what is one, in plain mathematics. -/
import Derived.Test.YtedkeobhcpbigaaSlA
import Derived.Test.YtedkeobhcpbigaaIntW
import Derived.Test.YtedkeobhcpbigaaLead
namespace Go.Proofs.Ytedkeobhcpbigaa
open Go.RowKit
/-- A row of a matrix with cols columns. -/
def rowOk (cols : Int) (z : List Int) : Bool := decide ((z.length : Int) = cols) && z.all (fun x => inR x (-2) 2)
def isMat (ms : List (List Int)) (cols : Int) : Bool := inR cols 1 6 && (decide (ms.length ≤ 12) && ms.all (rowOk cols))
theorem row_mem {ms : List (List Int)} {r : Nat} (h : r < ms.length) : row ms r ∈ ms := by simp [row, List.getD, h]
theorem isMat_cols {ms : List (List Int)} {cols : Int} (h : inR cols 1 6 = false) : isMat ms cols = false := by simp [isMat, h]
theorem isMat_many {ms : List (List Int)} {cols : Int} (h : 12 < ms.length) : isMat ms cols = false := by
  have : decide (ms.length ≤ 12) = false := by simp; omega
  simp [isMat, this]
theorem isMat_row {ms : List (List Int)} {cols : Int} {r : Nat} (hr : r < ms.length) (h : rowOk cols (row ms r) = false) : isMat ms cols = false := by
  have : ms.all (rowOk cols) = false := by
    rw [List.all_eq_false]
    exact ⟨_, row_mem hr, by rw [h]; decide⟩
  simp [isMat, this]
theorem isMat_yes {ms : List (List Int)} {cols : Int} (h1 : inR cols 1 6 = true) (h2 : ms.length ≤ 12) (h3 : ∀ r, r < ms.length → rowOk cols (row ms r) = true) : isMat ms cols = true := by
  have : ms.all (rowOk cols) = true := by
    rw [List.all_eq_true]
    intro z hz
    obtain ⟨r, hr, rfl⟩ := List.getElem_of_mem hz
    have := h3 r hr
    simpa [row, List.getD, hr] using this
  simp [isMat, this, h1, h2]
theorem rowOk_len {cols : Int} {z : List Int} (h : (z.length : Int) ≠ cols) : rowOk cols z = false := by simp [rowOk, h]
theorem rowOk_cell {cols : Int} {z : List Int} {k : Nat} (hk : k < z.length) (h : inR (z.getD k 0) (-2) 2 = false) : rowOk cols z = false := by
  have : z.all (fun x => inR x (-2) 2) = false := by
    rw [List.all_eq_false]
    exact ⟨_, getD_mem hk, by simp only [h]; decide⟩
  simp [rowOk, this]
theorem rowOk_yes {cols : Int} {z : List Int} (h1 : (z.length : Int) = cols) (h2 : ∀ k, k < z.length → inR (z.getD k 0) (-2) 2 = true) : rowOk cols z = true := by
  have : z.all (fun x => inR x (-2) 2) = true := by
    rw [List.all_eq_true]
    intro x hx
    obtain ⟨k, hk, rfl⟩ := List.getElem_of_mem hx
    have := h2 k hk
    simpa [List.getD, hk] using this
  simp [rowOk, this, h1]
theorem isMat_true {ms : List (List Int)} {cols : Int} (h : isMat ms cols = true) : (1 ≤ cols ∧ cols ≤ 6) ∧ ms.length ≤ 12 ∧ ∀ r, r < ms.length → ((row ms r).length : Int) = cols ∧ ∀ k, k < (row ms r).length → -2 ≤ (row ms r).getD k 0 ∧ (row ms r).getD k 0 ≤ 2 := by
  simp only [isMat, Bool.and_eq_true, decide_eq_true_eq] at h
  obtain ⟨h1, h2, h3⟩ := h
  refine ⟨inR_true.1 h1, h2, fun r hr => ?_⟩
  have h4 := List.all_eq_true.1 h3 _ (row_mem hr)
  simp only [rowOk, Bool.and_eq_true, decide_eq_true_eq] at h4
  exact ⟨h4.1, fun k hk => inR_true.1 (List.all_eq_true.1 h4.2 _ (getD_mem hk))⟩
end Go.Proofs.Ytedkeobhcpbigaa
/- IsMatrix. -/
namespace Go.Proofs.Ytedkeobhcpbigaa
open Go.RowKit
set_option maxHeartbeats 1600000 in
theorem specIsM_any (W : World) (a : Option Addr) (len cap : Nat) (ms : List (List Int)) (cols : Int) (hsm : SmallM ms) (hn : -9223372036854775808 ≤ cols) (hm : cols ≤ 9223372036854775807) (hs : SeesM W a len ms) :
    Calls Try.prog 54 #[.slice a len cap, .int .i64 cols] W fun e w' => e = .returned (.bool (isMat ms cols)) ∧ Below W.heap.size W w' := by
  have HS := Lib.hid hs
  have HL := Lib.hid hs.1
  have hl : len ≤ 1048576 := by unfold SmallM at hsm; have := hs.1; omega
  have HSM := Lib.hid hsm
  obtain ⟨v, hv⟩ : ∃ v, v = isMat ms cols := ⟨_, rfl⟩
  rw [← hv]
  have HV := Lib.hid hv
  clear hs hsm hv
  cases h1 : inR cols 1 6
  · have HE := Lib.hid (HV.out.trans (isMat_cols (ms := ms) h1))
    go_enter Try.func54, Try.ntmps54
    go_wp2_with (go_at_call 52; refine (l1In_any _ _ _ _).mono ?_; rintro e w' ⟨rfl, rfl⟩)
    go_ret
    exact ⟨ret_bool HE.out.symm, Below.refl _ _⟩
  · by_cases h2 : (12 : Int) < (len : Int)
    · have HE := Lib.hid (HV.out.trans (isMat_many (cols := cols) (by rw [HL.out]; omega)))
      go_enter Try.func54, Try.ntmps54
      go_wp2_with (go_at_call 52; refine (l1In_any _ _ _ _).mono ?_; rintro e w' ⟨rfl, rfl⟩)
      go_ret
      exact ⟨ret_bool HE.out.symm, Below.refl _ _⟩
    · obtain ⟨c0, c1⟩ := inR_true.1 h1
      have H1 := Lib.hid h1
      go_enter Try.func54, Try.ntmps54
      go_wp2_with (go_at_call 52; refine (l1In_any _ _ _ _).mono ?_; rintro e w' ⟨rfl, rfl⟩)
      clear h1
      go_loopw [5, 6] (fun i _ wr => ∃ k : Nat, k ≤ len ∧ i = .int .i64 k ∧ Hid (∀ r, r < k → rowOk cols (row ms r) = true) ∧ Below W.heap.size W wr) (fun i _ _ => len - (intOf i).toNat)
      case atStart => exact ⟨0, Nat.zero_le _, rfl, Lib.hid (fun r hr => by omega), Below.refl _ _⟩
      case round =>
        obtain ⟨i, hi, rfl, HR, hb⟩ := hrel
        have HB := Lib.hid hb
        by_cases hlt : i < len
        · have him : i < ms.length := by rw [HL.out]; exact hlt
          obtain ⟨b, off, ar, cr, rfl, hbl, hc, _, _, hsr⟩ := HS.out.2 i hlt
          have hcw := (hb.cell (p := ⟨b, off + i, none⟩) hbl).trans hc
          obtain ⟨zs, hzs⟩ : ∃ zs, zs = row ms i := ⟨_, rfl⟩
          rw [← hzs] at hcw hsr
          have HZ := Lib.hid hzs
          have hzl : zs.length ≤ 1048576 := by have := HSM.out.row him; rw [hzs]; omega
          have HSR := Lib.hid hsr
          have HCW := Lib.hid hc
          clear hc hsr hzs
          by_cases hne : (zs.length : Int) = cols
          · clear hb
            go_wp2
            clear hcw
            go_loopw [6] (fun q wr2 => ∃ k : Nat, k ≤ zs.length ∧ q = .int .i64 k ∧ Hid (∀ c, c < k → inR (zs.getD c 0) (-2) 2 = true) ∧ Below W.heap.size W wr2) (fun q _ => zs.length - (intOf q).toNat)
            case atStart => exact ⟨0, Nat.zero_le _, rfl, Lib.hid (fun c hc => by omega), HB.out⟩
            case round =>
              obtain ⟨k, hk, rfl, HC, hb⟩ := hrel
              have HB2 := Lib.hid hb
              have hcw := (hb.cell (p := ⟨b, off + i, none⟩) hbl).trans HCW.out
              rw [← HZ.out] at hcw
              by_cases hkl : k < zs.length
              · rcases HSR.out.2.2 with h0 | ⟨b2, o2, rfl, hb2, hc2⟩
                · omega
                · have hcc := (hb.cell (p := ⟨b2, o2 + k, none⟩) hb2).trans (hc2 k hkl)
                  obtain ⟨x, hx⟩ : ∃ x, x = zs.getD k 0 := ⟨_, rfl⟩
                  rw [← hx] at hcc
                  have HX := Lib.hid hx
                  clear hc2 hb hx
                  cases hin : inR x (-2) 2
                  · have HE := Lib.hid (HV.out.trans (isMat_row him (rowOk_cell (cols := cols) (k := k) (by rw [← HZ.out]; exact hkl) (by rw [← HZ.out, ← HX.out]; exact hin))))
                    have HIN := Lib.hid hin
                    clear hin
                    go_wp2_with (go_at_call 52; refine (l1In_any _ _ _ _).mono ?_; rw [HIN.out]; rintro e w' ⟨rfl, rfl⟩)
                    go_ret
                    exact ⟨ret_bool HE.out.symm, HB2.out⟩
                  · have HIN := Lib.hid hin
                    clear hin
                    go_wp2_with (go_at_call 52; refine (l1In_any _ _ _ _).mono ?_; rw [HIN.out]; rintro e w' ⟨rfl, rfl⟩)
                    go_roundw
                    case rel => exact ⟨k + 1, by omega, by go_num, Lib.hid (fun c hc => by rcases Nat.lt_or_eq_of_le (Nat.lt_succ_iff.1 hc) with h | h; exact HC.out c h; subst h; rw [← HX.out]; exact HIN.out), HB2.out⟩
                    case measure => simp [intOf]; omega
              · clear hb
                obtain rfl : k = zs.length := by omega
                go_wp2
                go_roundw
                case rel => exact ⟨i + 1, by omega, by go_num, Lib.hid (fun r hr => by rcases Nat.lt_or_eq_of_le (Nat.lt_succ_iff.1 hr) with h | h; exact HR.out r h; subst h; rw [← HZ.out]; exact rowOk_yes hne HC.out), HB2.out⟩
                case measure => simp [intOf]; omega
          · have HE := Lib.hid (HV.out.trans (isMat_row him (rowOk_len (cols := cols) (by rw [← HZ.out]; exact hne))))
            clear hb
            go_wp2
            go_ret
            exact ⟨ret_bool HE.out.symm, HB.out⟩
        · clear hb
          have HE := Lib.hid (HV.out.trans (isMat_yes H1.out (by rw [HL.out]; omega) (fun r hr => HR.out r (by rw [HL.out] at hr; omega))))
          go_wp2
          go_ret
          exact ⟨ret_bool HE.out.symm, HB.out⟩
end Go.Proofs.Ytedkeobhcpbigaa
/- The library's search in a slice of integers, with the program's tests. -/
namespace Go.Proofs.Ytedkeobhcpbigaa
open Go.RowKit
/-- The first place where p holds, or -1. -/
def idxV (p : Int → Bool) (zs : List Int) : Int := if findA (fun j => if p (zs.getD j 0) then 1 else 0) zs.length 0 = zs.length then -1 else (findA (fun j => if p (zs.getD j 0) then 1 else 0) zs.length 0 : Nat)
theorem idxV_none {p : Int → Bool} {zs : List Int} (h : ∀ j, j < zs.length → p (zs.getD j 0) = false) : idxV p zs = -1 := by
  unfold idxV
  rw [if_pos]
  exact findA_eq (Nat.zero_le _) (by omega) (fun i _ hi => by simp only [h i hi]; rfl) (.inl (by omega))
theorem idxV_at {p : Int → Bool} {zs : List Int} {k : Nat} (hk : k < zs.length) (h : ∀ j, j < k → p (zs.getD j 0) = false) (h1 : p (zs.getD k 0) = true) : idxV p zs = (k : Int) := by
  have e : findA (fun j => if p (zs.getD j 0) then 1 else 0) zs.length 0 = k := findA_eq (Nat.zero_le _) (by omega) (fun i _ hi => by simp only [h i hi]; rfl) (.inr (by simp only [h1]; decide))
  unfold idxV
  rw [e, if_neg (by omega)]
/-- A test: whether an integer lies outside of what a cell may be. -/
def beyondP (x : Int) : Bool := !inR x (-2) 2
def notZeroP (x : Int) : Bool := decide (x ≠ 0)
/-- Where a row begins, or -1. -/
def startV (zs : List Int) : Int := if leadL zs = zs.length then -1 else (leadL zs : Int)
theorem startV_idx (zs : List Int) : idxV notZeroP zs = startV zs := by
  unfold startV
  rcases Nat.lt_or_eq_of_le (leadL_le zs) with h | h
  · rw [if_neg (by omega)]
    exact idxV_at h (fun j hj => by have : vec zs j = 0 := leadL_before hj; unfold vec at this; rw [this]; rfl) (decide_eq_true (leadL_at h))
  · rw [if_pos h]
    exact idxV_none fun j _ => by have : vec zs j = 0 := leadL_all h j; unfold vec at this; rw [this]; rfl
/-- Whether p holds somewhere. -/
def hasV (p : Int → Bool) (zs : List Int) : Bool := decide (0 ≤ idxV p zs)
theorem idxV_lo (p : Int → Bool) (zs : List Int) : -1 ≤ idxV p zs := by unfold idxV; split <;> omega
theorem beyond_any (x : Int) (W : World) : Calls Try.prog 50 #[.int .i64 x] W fun e w' => e = .returned (.bool (beyondP x)) ∧ W = w' := by
  go_enter Try.func50, Try.ntmps50
  go_wp2_with (go_at_call 43; refine (inRange_any _ _ _ _).mono ?_; rintro e w' ⟨rfl, rfl⟩)
  go_ret
  exact ⟨rfl, rfl⟩
theorem notZero_any (x : Int) (W : World) : Calls Try.prog 85 #[.int .i64 x] W fun e w' => e = .returned (.bool (notZeroP x)) ∧ W = w' := by
  by_cases h : x = 0
  · subst h
    go_enter Try.func85, Try.ntmps85
    go_wp2
    go_ret
    exact ⟨rfl, rfl⟩
  · have HE : Hid (notZeroP x = true) := Lib.hid (by simp [notZeroP, h])
    go_enter Try.func85, Try.ntmps85
    go_wp2
    go_ret
    exact ⟨by rw [HE.out]; simp [h], rfl⟩
set_option maxHeartbeats 800000 in
theorem idxBeyond_any (W : World) (a : Option Addr) (len cap : Nat) (zs : List Int) (hl : len ≤ 1073741824) (hs : Sees .i64 W a len zs) :
    Calls Try.prog 74 #[.slice a len cap, .func (.func 50) #[] #[]] W fun e w' => e = .returned (.int .i64 (idxV beyondP zs)) ∧ W = w' := by
  have HS := Lib.hid hs
  have HL := Lib.hid hs.1
  clear hs
  obtain ⟨v, hv⟩ : ∃ v : Int, v = idxV beyondP zs := ⟨_, rfl⟩
  rw [← hv]
  have HV := Lib.hid hv
  clear hv
  go_enter Try.func74, Try.ntmps74
  go_wp2
  go_loop [8, 5] (fun i _ => ∃ k : Nat, k ≤ len ∧ i = .int .i64 k ∧ Hid (∀ j, j < k → beyondP (zs.getD j 0) = false)) (fun i _ => len - (intOf i).toNat)
  case atStart => exact ⟨0, Nat.zero_le _, rfl, Lib.hid (fun j hj => by omega)⟩
  case round =>
    obtain ⟨k, hk, rfl, HZ⟩ := hrel
    by_cases hlt : k < len
    · rcases HS.out.2.2 with h0 | ⟨b, off, rfl, hbB, hcell⟩
      · omega
      · have hc := hcell k hlt
        obtain ⟨x, hx⟩ : ∃ x, x = zs.getD k 0 := ⟨_, rfl⟩
        rw [← hx] at hc
        have HX := Lib.hid hx
        clear hcell hx
        cases hp : beyondP x
        · have HP := Lib.hid hp
          clear hp
          go_wp2_with (go_at_call 50; refine (beyond_any _ _).mono ?_; rw [HP.out]; rintro e w' ⟨rfl, rfl⟩)
          go_round
          case rel => exact ⟨k + 1, by omega, by go_num, Lib.hid (fun j hj => by rcases Nat.lt_or_eq_of_le (Nat.lt_succ_iff.1 hj) with h | h; exact HZ.out j h; subst h; rw [← HX.out]; exact HP.out)⟩
          case measure => simp [intOf]; omega
        · have HP := Lib.hid hp
          clear hp
          have HE : Hid (v = k) := Lib.hid (by rw [HV.out]; exact idxV_at (by rw [HL.out]; exact hlt) HZ.out (by rw [← HX.out]; exact HP.out))
          go_wp2_with (go_at_call 50; refine (beyond_any _ _).mono ?_; rw [HP.out]; rintro e w' ⟨rfl, rfl⟩)
          go_ret
          exact ⟨ret_intV HE.out.symm, rfl⟩
    · obtain rfl : k = len := by omega
      have HE : Hid (v = -1) := Lib.hid (by rw [HV.out]; exact idxV_none (fun j hj => HZ.out j (by rw [HL.out] at hj; exact hj)))
      go_wp2
      go_ret
      exact ⟨ret_intV HE.out.symm, rfl⟩
set_option maxHeartbeats 800000 in
theorem idxNotZero_any (W : World) (a : Option Addr) (len cap : Nat) (zs : List Int) (hl : len ≤ 1073741824) (hs : Sees .i64 W a len zs) :
    Calls Try.prog 74 #[.slice a len cap, .func (.func 85) #[] #[]] W fun e w' => e = .returned (.int .i64 (idxV notZeroP zs)) ∧ W = w' := by
  have HS := Lib.hid hs
  have HL := Lib.hid hs.1
  clear hs
  obtain ⟨v, hv⟩ : ∃ v : Int, v = idxV notZeroP zs := ⟨_, rfl⟩
  rw [← hv]
  have HV := Lib.hid hv
  clear hv
  go_enter Try.func74, Try.ntmps74
  go_wp2
  go_loop [8, 5] (fun i _ => ∃ k : Nat, k ≤ len ∧ i = .int .i64 k ∧ Hid (∀ j, j < k → notZeroP (zs.getD j 0) = false)) (fun i _ => len - (intOf i).toNat)
  case atStart => exact ⟨0, Nat.zero_le _, rfl, Lib.hid (fun j hj => by omega)⟩
  case round =>
    obtain ⟨k, hk, rfl, HZ⟩ := hrel
    by_cases hlt : k < len
    · rcases HS.out.2.2 with h0 | ⟨b, off, rfl, hbB, hcell⟩
      · omega
      · have hc := hcell k hlt
        obtain ⟨x, hx⟩ : ∃ x, x = zs.getD k 0 := ⟨_, rfl⟩
        rw [← hx] at hc
        have HX := Lib.hid hx
        clear hcell hx
        cases hp : notZeroP x
        · have HP := Lib.hid hp
          clear hp
          go_wp2_with (go_at_call 85; refine (notZero_any _ _).mono ?_; rw [HP.out]; rintro e w' ⟨rfl, rfl⟩)
          go_round
          case rel => exact ⟨k + 1, by omega, by go_num, Lib.hid (fun j hj => by rcases Nat.lt_or_eq_of_le (Nat.lt_succ_iff.1 hj) with h | h; exact HZ.out j h; subst h; rw [← HX.out]; exact HP.out)⟩
          case measure => simp [intOf]; omega
        · have HP := Lib.hid hp
          clear hp
          have HE : Hid (v = k) := Lib.hid (by rw [HV.out]; exact idxV_at (by rw [HL.out]; exact hlt) HZ.out (by rw [← HX.out]; exact HP.out))
          go_wp2_with (go_at_call 85; refine (notZero_any _ _).mono ?_; rw [HP.out]; rintro e w' ⟨rfl, rfl⟩)
          go_ret
          exact ⟨ret_intV HE.out.symm, rfl⟩
    · obtain rfl : k = len := by omega
      have HE : Hid (v = -1) := Lib.hid (by rw [HV.out]; exact idxV_none (fun j hj => HZ.out j (by rw [HL.out] at hj; exact hj)))
      go_wp2
      go_ret
      exact ⟨ret_intV HE.out.symm, rfl⟩
theorem hasBeyond_any (W : World) (a : Option Addr) (len cap : Nat) (zs : List Int) (hl : len ≤ 1073741824) (hs : Sees .i64 W a len zs) :
    Calls Try.prog 49 #[.slice a len cap, .func (.func 50) #[] #[]] W fun e w' => e = .returned (.bool (hasV beyondP zs)) ∧ W = w' := by
  have HS := Lib.hid hs
  clear hs
  unfold hasV
  obtain ⟨v, hv⟩ : ∃ v : Int, idxV beyondP zs = v := ⟨_, rfl⟩
  have HV := Lib.hid hv
  rw [hv]
  clear hv
  go_enter Try.func49, Try.ntmps49
  go_wp2_with (go_at_call 74; refine (idxBeyond_any _ _ _ _ zs hl HS.out).mono ?_; rw [HV.out]; rintro e w' ⟨rfl, rfl⟩)
  go_ret
  exact ⟨rfl, rfl⟩
theorem startOf_any (W : World) (a : Option Addr) (len cap : Nat) (zs : List Int) (hl : len ≤ 1073741824) (hs : Sees .i64 W a len zs) :
    Calls Try.prog 63 #[.slice a len cap] W fun e w' => e = .returned (.int .i64 (startV zs)) ∧ W = w' := by
  have HS := Lib.hid hs
  have HV := Lib.hid (startV_idx zs)
  clear hs
  go_enter Try.func63, Try.ntmps63
  go_wp2_with (go_at_call 74; refine (idxNotZero_any _ _ _ _ zs hl HS.out).mono ?_; rw [HV.out]; rintro e w' ⟨rfl, rfl⟩)
  go_ret
  exact ⟨rfl, rfl⟩
end Go.Proofs.Ytedkeobhcpbigaa
/- IsMatrix, the program's. -/
namespace Go.Proofs.Ytedkeobhcpbigaa
open Go.RowKit
theorem has_yes {p : Int → Bool} {zs : List Int} {k : Nat} (hk : k < zs.length) (h : p (zs.getD k 0) = true) : hasV p zs = true := by
  have hs := findA_spec (fun j => if p (zs.getD j 0) then (1 : Int) else 0) zs.length 0
  unfold hasV idxV
  rw [decide_eq_true_iff, if_neg]
  · omega
  · intro e
    have := hs.2.2.1 k (Nat.zero_le _) (by omega)
    simp only [h] at this
    exact absurd this (by decide)
theorem has_no {p : Int → Bool} {zs : List Int} (h : hasV p zs = false) {k : Nat} (hk : k < zs.length) : p (zs.getD k 0) = false := by
  cases h1 : p (zs.getD k 0)
  · rfl
  · rw [has_yes hk h1] at h; cases h
theorem has_where {p : Int → Bool} {zs : List Int} (h : hasV p zs = true) : ∃ k, k < zs.length ∧ p (zs.getD k 0) = true := by
  rcases Classical.em (∃ k, k < zs.length ∧ p (zs.getD k 0) = true) with h1 | h1
  · exact h1
  · have : idxV p zs = -1 := idxV_none fun j hj => by
      cases h2 : p (zs.getD j 0)
      · rfl
      · exact absurd ⟨j, hj, h2⟩ h1
    unfold hasV at h
    rw [this] at h
    exact absurd h (by decide)
theorem rowOk_beyond {cols : Int} {zs : List Int} (h : hasV beyondP zs = true) : rowOk cols zs = false := by
  obtain ⟨k, hk, h1⟩ := has_where h
  exact rowOk_cell hk (by unfold beyondP at h1; cases h2 : inR (zs.getD k 0) (-2) 2; rfl; rw [h2] at h1; exact absurd h1 (by decide))
theorem rowOk_within {cols : Int} {zs : List Int} (hl : (zs.length : Int) = cols) (h : hasV beyondP zs = false) : rowOk cols zs = true :=
  rowOk_yes hl fun k hk => by have := has_no h hk; unfold beyondP at this; cases h2 : inR (zs.getD k 0) (-2) 2; rw [h2] at this; exact absurd this (by decide); rfl
set_option maxHeartbeats 1600000 in
theorem isM_any (W : World) (a : Option Addr) (len cap : Nat) (ms : List (List Int)) (cols : Int) (hsm : SmallM ms) (hn : -9223372036854775808 ≤ cols) (hm : cols ≤ 9223372036854775807) (hs : SeesM W a len ms) :
    Calls Try.prog 19 #[.slice a len cap, .int .i64 cols] W fun e w' => e = .returned (.bool (isMat ms cols)) ∧ Below W.heap.size W w' := by
  have HS := Lib.hid hs
  have HL := Lib.hid hs.1
  have hl : len ≤ 1048576 := by unfold SmallM at hsm; have := hs.1; omega
  have HSM := Lib.hid hsm
  obtain ⟨v, hv⟩ : ∃ v, v = isMat ms cols := ⟨_, rfl⟩
  rw [← hv]
  have HV := Lib.hid hv
  clear hs hsm hv
  cases h1 : inR cols 1 6
  · have HE := Lib.hid (HV.out.trans (isMat_cols (ms := ms) h1))
    go_enter Try.func19, Try.ntmps19
    go_wp2_with (go_at_call 43; refine (inRange_any _ _ _ _).mono ?_; rw [h1]; rintro e w' ⟨rfl, rfl⟩)
    go_ret
    exact ⟨ret_bool HE.out.symm, Below.refl _ _⟩
  · by_cases h2 : (12 : Int) < (len : Int)
    · have HE := Lib.hid (HV.out.trans (isMat_many (cols := cols) (by rw [HL.out]; omega)))
      go_enter Try.func19, Try.ntmps19
      go_wp2_with (go_at_call 43; refine (inRange_any _ _ _ _).mono ?_; rw [h1]; rintro e w' ⟨rfl, rfl⟩)
      go_ret
      exact ⟨ret_bool HE.out.symm, Below.refl _ _⟩
    · obtain ⟨c0, c1⟩ := inR_true.1 h1
      have H1 := Lib.hid h1
      go_enter Try.func19, Try.ntmps19
      go_wp2_with (go_at_call 43; refine (inRange_any _ _ _ _).mono ?_; rw [H1.out]; rintro e w' ⟨rfl, rfl⟩)
      clear h1
      go_loop [17, 6] (fun i _ => ∃ k : Nat, k ≤ len ∧ i = .int .i64 k ∧ Hid (∀ r, r < k → rowOk cols (row ms r) = true)) (fun i _ => len - (intOf i).toNat)
      case atStart => exact ⟨0, Nat.zero_le _, rfl, Lib.hid (fun r hr => by omega)⟩
      case round =>
        obtain ⟨i, hi, rfl, HR⟩ := hrel
        by_cases hlt : i < len
        · have him : i < ms.length := by rw [HL.out]; exact hlt
          obtain ⟨b, off, ar, cr, rfl, hbl, hc, _, _, hsr⟩ := HS.out.2 i hlt
          obtain ⟨zs, hzs⟩ : ∃ zs, zs = row ms i := ⟨_, rfl⟩
          rw [← hzs] at hc hsr
          have HZ := Lib.hid hzs
          have hzl : zs.length ≤ 1048576 := by have := HSM.out.row him; rw [hzs]; omega
          have HSR := Lib.hid hsr
          clear hsr hzs
          by_cases hne : (zs.length : Int) = cols
          · cases hbe : hasV beyondP zs
            · have HBE := Lib.hid hbe
              have HOK := Lib.hid (rowOk_within hne hbe)
              clear hbe
              go_wp2_with (go_at_call 49; refine (hasBeyond_any _ _ _ _ zs (by omega) HSR.out).mono ?_; rw [HBE.out]; rintro e w' ⟨rfl, rfl⟩)
              go_round
              case rel => exact ⟨i + 1, by omega, by go_num, Lib.hid (fun r hr => by rcases Nat.lt_or_eq_of_le (Nat.lt_succ_iff.1 hr) with h | h; exact HR.out r h; subst h; rw [← HZ.out]; exact HOK.out)⟩
              case measure => simp [intOf]; omega
            · have HBE := Lib.hid hbe
              have HE := Lib.hid (HV.out.trans (isMat_row him (by rw [← HZ.out]; exact rowOk_beyond (cols := cols) hbe)))
              clear hbe
              go_wp2_with (go_at_call 49; refine (hasBeyond_any _ _ _ _ zs (by omega) HSR.out).mono ?_; rw [HBE.out]; rintro e w' ⟨rfl, rfl⟩)
              go_ret
              exact ⟨ret_bool HE.out.symm, Below.refl _ _⟩
          · have HE := Lib.hid (HV.out.trans (isMat_row him (rowOk_len (cols := cols) (by rw [← HZ.out]; exact hne))))
            go_wp2
            go_ret
            exact ⟨ret_bool HE.out.symm, Below.refl _ _⟩
        · have HE := Lib.hid (HV.out.trans (isMat_yes H1.out (by rw [HL.out]; omega) (fun r hr => HR.out r (by rw [HL.out] at hr; omega))))
          go_wp2
          go_ret
          exact ⟨ret_bool HE.out.symm, Below.refl _ _⟩
end Go.Proofs.Ytedkeobhcpbigaa
