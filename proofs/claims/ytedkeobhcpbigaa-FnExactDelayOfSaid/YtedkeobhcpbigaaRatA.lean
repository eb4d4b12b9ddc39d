/- Fractions, as plain mathematics: what is valid, what is reduced, and that reduced fractions are unique. -/
import Derived.WalkKit
import Derived.Test.YtedkeobhcpbigaaIntW
import Derived.Test.YtedkeobhcpbigaaSl
namespace Go.Proofs.Ytedkeobhcpbigaa
/-- A valid fraction. -/
def IsR (n d : Int) : Prop := -1000000000 ≤ n ∧ n ≤ 1000000000 ∧ 1 ≤ d ∧ d ≤ 1000000000 ∧ Int.gcd n d = 1
instance (n d : Int) : Decidable (IsR n d) := by unfold IsR; infer_instance
def isR (n d : Int) : Bool := decide (IsR n d)
theorem isR_true {n d : Int} : isR n d = true ↔ IsR n d := by simp [isR]
theorem isR_false {n d : Int} : isR n d = false ↔ ¬ IsR n d := by simp [isR]
/-- n with d's sign taken over. -/
def sgn (d n : Int) : Int := if d < 0 then -n else n
def redN (n d : Int) : Int := sgn d n / (Int.gcd n d : Int)
def redD (n d : Int) : Int := sgn d d / (Int.gcd n d : Int)
/-- The fraction with the value n divided by d is valid. -/
def MkOk (n d : Int) : Prop := d ≠ 0 ∧ IsR (redN n d) (redD n d)
instance (n d : Int) : Decidable (MkOk n d) := by unfold MkOk; infer_instance
def mkOk (n d : Int) : Bool := decide (MkOk n d)
def mkN (n d : Int) : Int := if MkOk n d then redN n d else 0
def mkD (n d : Int) : Int := if MkOk n d then redD n d else 0
theorem gcd_pos {n d : Int} (h : d ≠ 0) : (0 : Int) < (Int.gcd n d : Int) := by
  have := Int.gcd_pos_of_ne_zero_right n h
  omega
theorem sgn_dvd {g d n : Int} (h : g ∣ n) : g ∣ sgn d n := by
  unfold sgn
  split
  · exact Int.dvd_neg.2 h
  · exact h
theorem red_num {n d : Int} : redN n d * (Int.gcd n d : Int) = sgn d n := Int.ediv_mul_cancel (sgn_dvd (Int.gcd_dvd_left n d))
theorem red_den {n d : Int} : redD n d * (Int.gcd n d : Int) = sgn d d := Int.ediv_mul_cancel (sgn_dvd (Int.gcd_dvd_right n d))
theorem sgn_cross (n d : Int) : sgn d n * d = n * sgn d d := by
  unfold sgn
  split
  · rw [Int.neg_mul, Int.mul_neg]
  · rfl
theorem mul_cancel {a b c : Int} (hc : 0 < c) (h : a * c = b * c) : a = b := Int.eq_of_mul_eq_mul_right (by omega) h
theorem red_cross {n d : Int} (hd : d ≠ 0) : redN n d * d = n * redD n d := by
  refine mul_cancel (gcd_pos (n := n) hd) ?_
  have h1 := red_num (n := n) (d := d)
  have h2 := red_den (n := n) (d := d)
  calc redN n d * d * (Int.gcd n d : Int) = redN n d * (Int.gcd n d : Int) * d := by rw [Int.mul_assoc, Int.mul_comm d, ← Int.mul_assoc]
    _ = n * (redD n d * (Int.gcd n d : Int)) := by rw [h1, h2, sgn_cross]
    _ = n * redD n d * (Int.gcd n d : Int) := by rw [Int.mul_assoc]
theorem mk_cross {n d : Int} (h : MkOk n d) : mkN n d * d = n * mkD n d := by
  unfold mkN mkD
  rw [if_pos h, if_pos h]
  exact red_cross h.1
theorem mk_valid {n d : Int} (h : MkOk n d) : IsR (mkN n d) (mkD n d) := by
  unfold mkN mkD
  rw [if_pos h, if_pos h]
  exact h.2
theorem mk_no {n d : Int} (h : ¬ MkOk n d) : mkN n d = 0 ∧ mkD n d = 0 := by
  unfold mkN mkD
  rw [if_neg h, if_neg h]
  exact ⟨rfl, rfl⟩
theorem cop_dvd {x y d : Int} (hg : Int.gcd x y = 1) (h : y ∣ x * d) : y ∣ d := by
  have := Int.dvd_gcd_mul_iff_dvd_mul.2 h
  rw [Int.gcd_comm, hg] at this
  simpa using this
/-- A valid fraction of the same value is the reduced one. -/
theorem mk_uniq {n d x y : Int} (hd : 0 < d) (hv : IsR x y) (hc : n * y = x * d) : MkOk n d ∧ mkN n d = x ∧ mkD n d = y := by
  obtain ⟨hx0, hx1, hy0, hy1, hg⟩ := hv
  obtain ⟨k, hk⟩ := cop_dvd hg ⟨n, by rw [Int.mul_comm y n, hc]⟩
  have hk0 : 0 < k := by
    rcases Int.lt_or_le 0 k with h | h
    · exact h
    · have : y * k ≤ y * 0 := Int.mul_le_mul_of_nonneg_left h (by omega)
      omega
  have hn : n = x * k := by
    refine mul_cancel (show 0 < y by omega) ?_
    rw [hc, hk, Int.mul_comm y k, Int.mul_assoc]
  have hgk : (Int.gcd n d : Int) = k := by
    rw [hn, hk, Int.gcd_mul_right, hg]
    omega
  have e1 : redN n d = x := by
    unfold redN sgn
    rw [if_neg (by omega), hgk, hn]
    exact Int.mul_ediv_cancel _ (by omega)
  have e2 : redD n d = y := by
    unfold redD sgn
    rw [if_neg (by omega), hgk, hk]
    exact Int.mul_ediv_cancel _ (by omega)
  have ok : MkOk n d := ⟨by omega, by rw [e1, e2]; exact ⟨hx0, hx1, hy0, hy1, hg⟩⟩
  unfold mkN mkD
  rw [if_pos ok, if_pos ok]
  exact ⟨ok, e1, e2⟩
/-! ### Sums, products, comparison -/
def AddOk (a b c d : Int) : Prop := IsR a b ∧ IsR c d ∧ MkOk (a * d + c * b) (b * d)
instance (a b c d : Int) : Decidable (AddOk a b c d) := by unfold AddOk; infer_instance
def addN (a b c d : Int) : Int := if AddOk a b c d then mkN (a * d + c * b) (b * d) else 0
def addD (a b c d : Int) : Int := if AddOk a b c d then mkD (a * d + c * b) (b * d) else 0
def MulOk (a b c d : Int) : Prop := IsR a b ∧ IsR c d ∧ MkOk (a * c) (b * d)
instance (a b c d : Int) : Decidable (MulOk a b c d) := by unfold MulOk; infer_instance
def mulN (a b c d : Int) : Int := if MulOk a b c d then mkN (a * c) (b * d) else 0
def mulD (a b c d : Int) : Int := if MulOk a b c d then mkD (a * c) (b * d) else 0
theorem addOk_comm {a b c d : Int} : AddOk a b c d ↔ AddOk c d a b := by
  unfold AddOk
  rw [Int.add_comm (a * d), Int.mul_comm b d]
  exact ⟨fun ⟨h1, h2, h3⟩ => ⟨h2, h1, h3⟩, fun ⟨h1, h2, h3⟩ => ⟨h2, h1, h3⟩⟩
theorem mulOk_comm {a b c d : Int} : MulOk a b c d ↔ MulOk c d a b := by
  unfold MulOk
  rw [Int.mul_comm a c, Int.mul_comm b d]
  exact ⟨fun ⟨h1, h2, h3⟩ => ⟨h2, h1, h3⟩, fun ⟨h1, h2, h3⟩ => ⟨h2, h1, h3⟩⟩
theorem addN_comm (a b c d : Int) : addN a b c d = addN c d a b := by
  unfold addN
  by_cases h : AddOk a b c d
  · rw [if_pos h, if_pos (addOk_comm.1 h), Int.add_comm (a * d), Int.mul_comm b d]
  · rw [if_neg h, if_neg (fun h2 => h (addOk_comm.2 h2))]
theorem addD_comm (a b c d : Int) : addD a b c d = addD c d a b := by
  unfold addD
  by_cases h : AddOk a b c d
  · rw [if_pos h, if_pos (addOk_comm.1 h), Int.add_comm (a * d), Int.mul_comm b d]
  · rw [if_neg h, if_neg (fun h2 => h (addOk_comm.2 h2))]
theorem mulN_comm (a b c d : Int) : mulN a b c d = mulN c d a b := by
  unfold mulN
  by_cases h : MulOk a b c d
  · rw [if_pos h, if_pos (mulOk_comm.1 h), Int.mul_comm a c, Int.mul_comm b d]
  · rw [if_neg h, if_neg (fun h2 => h (mulOk_comm.2 h2))]
theorem mulD_comm (a b c d : Int) : mulD a b c d = mulD c d a b := by
  unfold mulD
  by_cases h : MulOk a b c d
  · rw [if_pos h, if_pos (mulOk_comm.1 h), Int.mul_comm a c, Int.mul_comm b d]
  · rw [if_neg h, if_neg (fun h2 => h (mulOk_comm.2 h2))]
theorem add_valid {a b c d : Int} (h : AddOk a b c d) : IsR (addN a b c d) (addD a b c d) := by
  unfold addN addD
  rw [if_pos h, if_pos h]
  exact mk_valid h.2.2
theorem mul_valid {a b c d : Int} (h : MulOk a b c d) : IsR (mulN a b c d) (mulD a b c d) := by
  unfold mulN mulD
  rw [if_pos h, if_pos h]
  exact mk_valid h.2.2
def negN (a b : Int) : Int := if IsR a b then -a else 0
def negD (a b : Int) : Int := if IsR a b then b else 0
theorem neg_valid {a b : Int} (h : IsR a b) : IsR (-a) b := by
  obtain ⟨h1, h2, h3, h4, h5⟩ := h
  exact ⟨by omega, by omega, h3, h4, by rw [Int.neg_gcd]; exact h5⟩
def cmpV (a b c d : Int) : Int := if IsR a b ∧ IsR c d then (if a * d < c * b then -1 else if c * b < a * d then 1 else 0) else 0
theorem cmp_swap (a b c d : Int) : cmpV a b c d = -cmpV c d a b := by
  unfold cmpV
  by_cases h : IsR a b ∧ IsR c d
  · have h2 : IsR c d ∧ IsR a b := ⟨h.2, h.1⟩
    rw [if_pos h, if_pos h2]
    generalize a * d = u
    generalize c * b = v
    rcases Int.lt_trichotomy u v with h3 | h3 | h3
    · rw [if_pos h3, if_neg (by omega), if_pos h3]
    · rw [if_neg (by omega), if_neg (by omega), if_neg (by omega), if_neg (by omega)]
      rfl
    · rw [if_neg (by omega), if_pos h3, if_pos h3]
      rfl
  · have h2 : ¬ (IsR c d ∧ IsR a b) := fun h2 => h ⟨h2.2, h2.1⟩
    rw [if_neg h, if_neg h2]
    rfl
theorem pos_mul {x y : Int} (hx : 1 ≤ x) (hy : 1 ≤ y) : 0 < x * y := Int.mul_pos (by omega) (by omega)
/-- The sign of the difference is the comparison. -/
theorem sub_sign {a b c d : Int} (h1 : IsR a b) (h2 : IsR c d) (h : AddOk a b (-c) d) : (0 < addN a b (-c) d ↔ c * b < a * d) ∧ (addN a b (-c) d < 0 ↔ a * d < c * b) := by
  have hv := add_valid h
  have hc := mk_cross h.2.2
  have e1 : addN a b (-c) d = mkN (a * d + -c * b) (b * d) := by unfold addN; rw [if_pos h]
  have e2 : addD a b (-c) d = mkD (a * d + -c * b) (b * d) := by unfold addD; rw [if_pos h]
  rw [← e1, ← e2] at hc
  rw [Int.neg_mul] at hc
  have p := pos_mul h1.2.2.1 h2.2.2.1
  have q := hv.2.2.1
  generalize addN a b (-c) d = x at hc hv q ⊢
  generalize addD a b (-c) d = y at hc hv q ⊢
  generalize b * d = m at hc p
  generalize a * d = u at hc ⊢
  generalize c * b = v at hc ⊢
  have hs : u + -v = u - v := by omega
  rw [hs] at hc
  constructor
  · constructor
    · intro hx
      have : 0 < x * m := Int.mul_pos hx p
      rw [hc] at this
      have := Int.pos_of_mul_pos_left this (by omega)
      omega
    · intro hx
      have : 0 < (u - v) * y := Int.mul_pos (by omega) (by omega)
      rw [← hc] at this
      exact Int.pos_of_mul_pos_left this (by omega)
  · constructor
    · intro hx
      have : x * m < 0 := Int.mul_neg_of_neg_of_pos hx p
      rw [hc] at this
      rcases Int.lt_or_le u v with h | h
      · exact h
      · have := Int.mul_nonneg (show 0 ≤ u - v by omega) (show 0 ≤ y by omega)
        omega
    · intro hx
      have : (u - v) * y < 0 := Int.mul_neg_of_neg_of_pos (by omega) (by omega)
      rw [← hc] at this
      rcases Int.lt_or_le x 0 with h | h
      · exact h
      · have := Int.mul_nonneg h (show 0 ≤ m by omega)
        omega
/-- A difference and what was taken away add up. -/
theorem sub_back {a b c d : Int} (h1 : IsR a b) (h2 : IsR c d) (h : AddOk a b (-c) d) :
    AddOk (addN a b (-c) d) (addD a b (-c) d) c d ∧ addN (addN a b (-c) d) (addD a b (-c) d) c d = a ∧ addD (addN a b (-c) d) (addD a b (-c) d) c d = b := by
  have hv := add_valid h
  have hc := mk_cross h.2.2
  have e1 : addN a b (-c) d = mkN (a * d + -c * b) (b * d) := by unfold addN; rw [if_pos h]
  have e2 : addD a b (-c) d = mkD (a * d + -c * b) (b * d) := by unfold addD; rw [if_pos h]
  rw [← e1, ← e2] at hc
  generalize addN a b (-c) d = x at hc hv ⊢
  generalize addD a b (-c) d = y at hc hv ⊢
  have hy := hv.2.2.1
  have hd := h2.2.2.1
  have key : (x * d + c * y) * b = a * (y * d) := by
    have t1 : x * d * b = x * (b * d) := by rw [Int.mul_assoc, Int.mul_comm d b]
    have t2 : c * y * b = c * b * y := by rw [Int.mul_assoc, Int.mul_comm y b, ← Int.mul_assoc]
    have t3 : a * (y * d) = a * d * y := by rw [Int.mul_comm y d, ← Int.mul_assoc]
    rw [Int.add_mul, t1, hc, t2, t3, Int.add_mul, Int.neg_mul, Int.neg_mul]
    omega
  have u := mk_uniq (pos_mul hy hd) h1 key
  have ok : AddOk x y c d := ⟨hv, h2, u.1⟩
  unfold addN addD
  rw [if_pos ok, if_pos ok]
  exact ⟨ok, u.2.1, u.2.2⟩
end Go.Proofs.Ytedkeobhcpbigaa
/- The greatest common divisor: the model's. -/
namespace Go.Proofs.Ytedkeobhcpbigaa
open Go.RowKit
def natI (a : Int) : Int := (a.natAbs : Int)
theorem maxV_abs (a : Int) : maxV a (-a) = natI a := by
  unfold maxV natI
  split <;> omega
/-- The greater of a number and its opposite. -/
def AbsV (a : Int) (w : World) (e : Ending) (w' : World) : Prop := ∃ x : Int, x = natI a ∧ 0 ≤ x ∧ x ≤ 4000000000000000000 ∧ e = .returned (.int .i64 x) ∧ w = w'
theorem specAbs_any (a : Int) (w : World) (h0 : -4000000000000000000 ≤ a) (h1 : a ≤ 4000000000000000000) : Calls Try.prog 105 #[.int .i64 a, .int .i64 (-a)] w (AbsV a w) :=
  (specMax_any a (-a) w).mono fun _ _ ⟨he, hw⟩ => ⟨_, rfl, by unfold natI; omega, by unfold natI; omega, by rw [he, maxV_abs], hw⟩
/-- Euclid's step. -/
def Euclid (G : Nat) (x y : Int) : Prop := Nat.gcd x.toNat y.toNat = G
theorem euclid_step {G : Nat} {x y : Int} (h : Euclid G x y) (hx : 0 ≤ x) (hy : 0 < y) : Euclid G y (x % y) := by
  unfold Euclid at *
  have e : (x % y).toNat = x.toNat % y.toNat := Int.toNat_emod hx (Int.le_of_lt hy)
  rw [e, Nat.gcd_comm, ← Nat.gcd_rec, Nat.gcd_comm]
  exact h
theorem euclid_end {G : Nat} {x y : Int} (h : Euclid G x y) (hx : 0 ≤ x) (hy : y ≤ 0) : x = (G : Int) := by
  unfold Euclid at h
  have : y.toNat = 0 := by omega
  rw [this, Nat.gcd_zero_right] at h
  omega
set_option maxHeartbeats 800000 in
theorem specGcd_any (a b : Int) (w : World) (ha0 : -4000000000000000000 ≤ a) (ha1 : a ≤ 4000000000000000000) (hb0 : -4000000000000000000 ≤ b) (hb1 : b ≤ 4000000000000000000) :
    Calls Try.prog 101 #[.int .i64 a, .int .i64 b] w fun e w' => e = .returned (.int .i64 (Int.gcd a b : Int)) ∧ w = w' := by
  go_enter Try.func101, Try.ntmps101
  go_wp2_with fail
  go_at_call 105
  refine (specAbs_any a w ha0 ha1).mono ?_
  rintro e w' ⟨x, hx, hx0, hx1, rfl, rfl⟩
  have HX := Lib.hid hx
  clear hx
  go_wp2_with fail
  go_at_call 105
  refine (specAbs_any b w hb0 hb1).mono ?_
  rintro e w' ⟨y, hy, hy0, hy1, rfl, rfl⟩
  have HG : Hid (Euclid (Int.gcd a b) x y) := Lib.hid (by rw [HX.out, hy]; unfold Euclid natI; simp [Int.gcd])
  clear hy
  go_wp2_with fail
  go_loop [0, 1] (fun p q => ∃ X Y : Int, p = .int .i64 X ∧ q = .int .i64 Y ∧ 0 ≤ X ∧ X ≤ 4000000000000000000 ∧ 0 ≤ Y ∧ Y ≤ 4000000000000000000 ∧ Euclid (Int.gcd a b) X Y) (fun _ q => (intOf q).toNat)
  case atStart => exact ⟨x, y, rfl, rfl, hx0, hx1, hy0, hy1, HG.out⟩
  case round =>
    obtain ⟨X, Y, rfl, rfl, hX0, hX1, hY0, hY1, hE⟩ := hrel
    have HE := Lib.hid hE
    clear hE
    by_cases hlt : 0 < Y
    · have hm0 := Int.emod_nonneg X (show Y ≠ 0 by omega)
      have hm1 := Int.emod_lt_of_pos X hlt
      have HS := Lib.hid (euclid_step HE.out hX0 hlt)
      go_wp2
      go_round
      case rel => exact ⟨Y, X % Y, rfl, rfl, hY0, hY1, hm0, by omega, HS.out⟩
      case measure => simp [intOf]; omega
    · have HF := Lib.hid (euclid_end HE.out hX0 (by omega))
      go_wp2
      go_ret
      exact ⟨ret_int HF.out, rfl⟩
end Go.Proofs.Ytedkeobhcpbigaa
/- Fractions: the model's functions. -/
namespace Go.Proofs.Ytedkeobhcpbigaa
open Go.RowKit
theorem gcd_bool (n d : Int) (h1 : inR n (-1000000000) 1000000000 = true) (h2 : inR d 1 1000000000 = true) : decide ((Int.gcd n d : Int) = 1) = isR n d := by
  obtain ⟨a, b⟩ := inR_true.1 h1
  obtain ⟨c, e⟩ := inR_true.1 h2
  unfold isR
  rw [decide_eq_decide]
  constructor
  · intro h
    exact ⟨a, b, c, e, by omega⟩
  · intro h
    have := h.2.2.2.2
    omega
theorem isR_num {n d : Int} (h : inR n (-1000000000) 1000000000 = false) : isR n d = false := isR_false.2 fun hv => inR_false.1 h ⟨hv.1, hv.2.1⟩
theorem isR_den {n d : Int} (h : inR d 1 1000000000 = false) : isR n d = false := isR_false.2 fun hv => inR_false.1 h ⟨hv.2.2.1, hv.2.2.2.1⟩
set_option maxHeartbeats 800000 in
theorem specIsR_any (n d : Int) (w : World) : Calls Try.prog 104 #[.agg #[.int .i64 n, .int .i64 d]] w fun e w' => e = .returned (.bool (isR n d)) ∧ Below w.heap.size w w' := by
  cases h1 : inR n (-1000000000) 1000000000
  · have HE := Lib.hid (isR_num (d := d) h1)
    go_enter Try.func104, Try.ntmps104
    go_wp2_with (go_at_call 52; refine (l1In_any _ _ _ _).mono ?_; rintro e w' ⟨rfl, rfl⟩)
    go_ret
    exact ⟨ret_bool HE.out.symm, (Below.refl _ _).alloc (Nat.le_refl _) _⟩
  · cases h2 : inR d 1 1000000000
    · have HE := Lib.hid (isR_den (n := n) h2)
      go_enter Try.func104, Try.ntmps104
      go_wp2_with (go_at_call 52; refine (l1In_any _ _ _ _).mono ?_; rintro e w' ⟨rfl, rfl⟩)
      go_ret
      exact ⟨ret_bool HE.out.symm, (Below.refl _ _).alloc (Nat.le_refl _) _⟩
    · have HE := Lib.hid (gcd_bool n d h1 h2)
      obtain ⟨a, b⟩ := inR_true.1 h1
      obtain ⟨c, f⟩ := inR_true.1 h2
      go_enter Try.func104, Try.ntmps104
      go_wp2_with (first | (go_at_call 52; refine (l1In_any _ _ _ _).mono ?_; rintro e w' ⟨rfl, rfl⟩) | (go_at_call 101; refine (specGcd_any _ _ _ (by omega) (by omega) (by omega) (by omega)).mono ?_; rintro e w' ⟨rfl, rfl⟩))
      go_ret
      exact ⟨ret_bool HE.out, (Below.refl _ _).alloc (Nat.le_refl _) _⟩
theorem specGcdV_any (a b g : Int) (w : World) (hg : (Int.gcd a b : Int) = g) (ha0 : -4000000000000000000 ≤ a) (ha1 : a ≤ 4000000000000000000) (hb0 : -4000000000000000000 ≤ b) (hb1 : b ≤ 4000000000000000000) :
    Calls Try.prog 101 #[.int .i64 a, .int .i64 b] w fun e w' => e = .returned (.int .i64 g) ∧ w = w' :=
  hg ▸ specGcd_any a b w ha0 ha1 hb0 hb1
theorem bcell {W w1 : World} (hb : Below W.heap.size W w1) : (∀ b o, b < W.heap.size → w1.cell? ⟨b, o, none⟩ = W.cell? ⟨b, o, none⟩) ∧ (∀ b o, b < W.heap.size → w1.frozen? ⟨b, o, none⟩ = W.frozen? ⟨b, o, none⟩) :=
  ⟨fun b o h => hb.cell (p := ⟨b, o, none⟩) h, fun b o h => hb.frozen (p := ⟨b, o, none⟩) h⟩
/-- A fraction and whether it is there. -/
def RatRes (x y : Int) (b : Bool) (w : World) (e : Ending) (w' : World) : Prop := e = .returned (.tuple #[.agg #[.int .i64 x, .int .i64 y], .bool b]) ∧ Below w.heap.size w w'
theorem mk_zero (n : Int) : mkOk n 0 = false ∧ mkN n 0 = 0 ∧ mkD n 0 = 0 := by
  have h : ¬ MkOk n 0 := fun h => h.1 rfl
  exact ⟨by simp [mkOk, h], mk_no h⟩
theorem mk_true {n d : Int} (hd : d ≠ 0) (h : isR (redN n d) (redD n d) = true) : mkOk n d = true ∧ mkN n d = redN n d ∧ mkD n d = redD n d := by
  have ok : MkOk n d := ⟨hd, isR_true.1 h⟩
  exact ⟨by simp [mkOk, ok], by unfold mkN; rw [if_pos ok], by unfold mkD; rw [if_pos ok]⟩
theorem mk_false {n d : Int} (h : isR (redN n d) (redD n d) = false) : mkOk n d = false ∧ mkN n d = 0 ∧ mkD n d = 0 := by
  have no : ¬ MkOk n d := fun hv => isR_false.1 h hv.2
  exact ⟨by simp [mkOk, no], mk_no no⟩
theorem div_bd {m g : Int} (hg : 0 < g) (h0 : -4000000000000000000 ≤ m) (h1 : m ≤ 4000000000000000000) (hd : g ∣ m) : -4000000000000000000 ≤ m / g ∧ m / g ≤ 4000000000000000000 := by
  obtain ⟨k, rfl⟩ := hd
  rw [Int.mul_ediv_cancel_left _ (by omega)]
  rcases Int.lt_or_le k 0 with h | h
  · have : g * k ≤ 1 * k := Int.mul_le_mul_of_nonpos_right (by omega) (by omega)
    omega
  · have : 1 * k ≤ g * k := Int.mul_le_mul_of_nonneg_right (by omega) (by omega)
    omega
/-- What is known of a fraction once its sign stands in its numerator. -/
structure Normal (n d m c g x y : Int) : Prop where
  gcd : (Int.gcd m c : Int) = g
  pos : 0 < g
  num : m.tdiv g = x
  den : c.tdiv g = y
  x0 : -4000000000000000000 ≤ x
  x1 : x ≤ 4000000000000000000
  y0 : -4000000000000000000 ≤ y
  y1 : y ≤ 4000000000000000000
  redN : redN n d = x
  redD : redD n d = y
theorem normal_pos {n d : Int} (hd : 0 < d) (h0 : -4000000000000000000 ≤ n) (h1 : n ≤ 4000000000000000000) (h3 : d ≤ 4000000000000000000) : ∃ g x y, Normal n d n d g x y := by
  have e1 : redN n d = n / (Int.gcd n d : Int) := by unfold redN sgn; rw [if_neg (by omega)]
  have e2 : redD n d = d / (Int.gcd n d : Int) := by unfold redD sgn; rw [if_neg (by omega)]
  have b1 := div_bd (gcd_pos (n := n) (d := d) (by omega)) h0 h1 (Int.gcd_dvd_left n d)
  have b2 := div_bd (gcd_pos (n := n) (d := d) (by omega)) (by omega) h3 (Int.gcd_dvd_right n d)
  exact ⟨_, _, _, rfl, gcd_pos (by omega), Int.tdiv_eq_ediv_of_dvd (Int.gcd_dvd_left n d), Int.tdiv_eq_ediv_of_dvd (Int.gcd_dvd_right n d), b1.1, b1.2, b2.1, b2.2, e1, e2⟩
theorem normal_neg {n d : Int} (hd : d < 0) (h0 : -4000000000000000000 ≤ n) (h1 : n ≤ 4000000000000000000) (h2 : -4000000000000000000 ≤ d) : ∃ g x y, Normal n d (-n) (-d) g x y := by
  obtain ⟨g, x, y, h⟩ := normal_pos (n := -n) (d := -d) (by omega) (by omega) (by omega) (by omega)
  have eg : (Int.gcd (-n) (-d)) = Int.gcd n d := by rw [Int.neg_gcd, Int.gcd_neg]
  have e1 : Go.Proofs.Ytedkeobhcpbigaa.redN n d = x := by
    rw [← h.redN]
    unfold Go.Proofs.Ytedkeobhcpbigaa.redN sgn
    rw [if_pos hd, if_neg (by omega), eg]
  have e2 : Go.Proofs.Ytedkeobhcpbigaa.redD n d = y := by
    rw [← h.redD]
    unfold Go.Proofs.Ytedkeobhcpbigaa.redD sgn
    rw [if_pos hd, if_neg (by omega), eg]
  exact ⟨g, x, y, h.gcd, h.pos, h.num, h.den, h.x0, h.x1, h.y0, h.y1, e1, e2⟩
set_option maxHeartbeats 1600000 in
theorem specMk_any (n d : Int) (w : World) (h0 : -4000000000000000000 ≤ n) (h1 : n ≤ 4000000000000000000) (h2 : -4000000000000000000 ≤ d) (h3 : d ≤ 4000000000000000000) :
    Calls Try.prog 96 #[.int .i64 n, .int .i64 d] w (RatRes (mkN n d) (mkD n d) (mkOk n d) w) := by
  by_cases hd : d = 0
  · subst hd
    have HZ := Lib.hid (mk_zero n)
    go_enter Try.func96, Try.ntmps96
    go_wp2
    exact bodyPost_ret (v := .tuple #[.agg #[.int .i64 0, .int .i64 0], .bool false]) (by simp [results, Try.results96, go_sem]) rfl ⟨by rw [HZ.out.1, HZ.out.2.1, HZ.out.2.2], (Below.refl _ _).alloc (Nat.le_refl _) _⟩
  · by_cases hneg : d < 0
    · obtain ⟨g, x, y, N⟩ := normal_neg (n := n) (d := d) hneg h0 h1 h2
      have HN := Lib.hid N
      obtain ⟨hg1, hg, hnum, hden, hx0, hx1, hy0, hy1, hr1, hr2⟩ := N
      clear hg1 hr1 hr2
      have hwx : IntKind.i64.wrap x = x := IntWalk.i64_in _ (by omega)
      have hwy : IntKind.i64.wrap y = y := IntWalk.i64_in _ (by omega)
      go_enter Try.func96, Try.ntmps96
      go_wp2_with fail
      go_at_call 101
      refine (specGcdV_any (-n) (-d) g _ HN.out.gcd (by omega) (by omega) (by omega) (by omega)).mono ?_
      rintro e w' ⟨rfl, rfl⟩
      go_wp2_with fail
      go_region
      all_goals
        go_wp2_with fail
        go_at_call 104
        refine (specIsR_any x y _).mono ?_
        rintro e w1 ⟨rfl, hb⟩
        have c00 : w1.cell? ⟨w.heap.size, 0, none⟩ = some (.int .i64 0) := (hb.cell (p := ⟨w.heap.size, 0, none⟩) (by simp <;> omega)).trans (by go_simp)
        have c01 : w1.cell? ⟨w.heap.size, 1, none⟩ = some (.int .i64 0) := (hb.cell (p := ⟨w.heap.size, 1, none⟩) (by simp <;> omega)).trans (by go_simp)
        have c10 : w1.cell? ⟨w.heap.size + 1, 0, none⟩ = some (.int .i64 x) := (hb.cell (p := ⟨w.heap.size + 1, 0, none⟩) (by simp <;> omega)).trans (by go_simp)
        have c11 : w1.cell? ⟨w.heap.size + 1, 1, none⟩ = some (.int .i64 y) := (hb.cell (p := ⟨w.heap.size + 1, 1, none⟩) (by simp <;> omega)).trans (by go_simp)
        have f00 : w1.frozen? ⟨w.heap.size, 0, none⟩ = false := (hb.frozen (p := ⟨w.heap.size, 0, none⟩) (by simp <;> omega)).trans (by go_simp)
        have f01 : w1.frozen? ⟨w.heap.size, 1, none⟩ = false := (hb.frozen (p := ⟨w.heap.size, 1, none⟩) (by simp <;> omega)).trans (by go_simp)
        have hz : w.heap.size + 1 < w1.heap.size := by have := hb.size; simp at this; omega
        have HB := Lib.hid (Below.trans (show Below w.heap.size w _ by repeat (first | exact Below.refl _ _ | refine Below.alloc ?_ (by simp) _ | refine Below.drew ?_)) (hb.mono (by simp; omega)))
        clear hb
        cases hv : isR x y
        · have HM := Lib.hid (mk_false (n := n) (d := d) (by rw [HN.out.redN, HN.out.redD]; exact hv))
          go_wp2
          refine bodyPost_ret (v := .tuple #[.agg #[.int .i64 0, .int .i64 0], .bool false]) (by simp [results, Try.results96, go_sem, c00, c01]) rfl ⟨by rw [HM.out.1, HM.out.2.1, HM.out.2.2], ?_⟩
          repeat (first | exact HB.out | refine Below.setCell ?_ (by simp) _)
        · have HM := Lib.hid (mk_true (n := n) (d := d) hd (by rw [HN.out.redN, HN.out.redD]; exact hv))
          go_wp2
          refine bodyPost_ret (v := .tuple #[.agg #[.int .i64 x, .int .i64 y], .bool true]) (by simp [results, Try.results96, go_sem, c00, c01]) rfl ⟨by rw [HM.out.1, HM.out.2.1, HM.out.2.2, HN.out.redN, HN.out.redD], ?_⟩
          repeat (first | exact HB.out | refine Below.setCell ?_ (by simp) _)
    · obtain ⟨g, x, y, N⟩ := normal_pos (n := n) (d := d) (by omega) h0 h1 h3
      have HN := Lib.hid N
      obtain ⟨hg1, hg, hnum, hden, hx0, hx1, hy0, hy1, hr1, hr2⟩ := N
      clear hg1 hr1 hr2
      have hwx : IntKind.i64.wrap x = x := IntWalk.i64_in _ (by omega)
      have hwy : IntKind.i64.wrap y = y := IntWalk.i64_in _ (by omega)
      go_enter Try.func96, Try.ntmps96
      go_wp2_with fail
      go_at_call 101
      refine (specGcdV_any n d g _ HN.out.gcd h0 h1 h2 h3).mono ?_
      rintro e w' ⟨rfl, rfl⟩
      go_wp2_with fail
      go_region
      all_goals
        go_wp2_with fail
        go_at_call 104
        refine (specIsR_any x y _).mono ?_
        rintro e w1 ⟨rfl, hb⟩
        have c00 : w1.cell? ⟨w.heap.size, 0, none⟩ = some (.int .i64 0) := (hb.cell (p := ⟨w.heap.size, 0, none⟩) (by simp <;> omega)).trans (by go_simp)
        have c01 : w1.cell? ⟨w.heap.size, 1, none⟩ = some (.int .i64 0) := (hb.cell (p := ⟨w.heap.size, 1, none⟩) (by simp <;> omega)).trans (by go_simp)
        have c10 : w1.cell? ⟨w.heap.size + 1, 0, none⟩ = some (.int .i64 x) := (hb.cell (p := ⟨w.heap.size + 1, 0, none⟩) (by simp <;> omega)).trans (by go_simp)
        have c11 : w1.cell? ⟨w.heap.size + 1, 1, none⟩ = some (.int .i64 y) := (hb.cell (p := ⟨w.heap.size + 1, 1, none⟩) (by simp <;> omega)).trans (by go_simp)
        have f00 : w1.frozen? ⟨w.heap.size, 0, none⟩ = false := (hb.frozen (p := ⟨w.heap.size, 0, none⟩) (by simp <;> omega)).trans (by go_simp)
        have f01 : w1.frozen? ⟨w.heap.size, 1, none⟩ = false := (hb.frozen (p := ⟨w.heap.size, 1, none⟩) (by simp <;> omega)).trans (by go_simp)
        have hz : w.heap.size + 1 < w1.heap.size := by have := hb.size; simp at this; omega
        have HB := Lib.hid (Below.trans (show Below w.heap.size w _ by repeat (first | exact Below.refl _ _ | refine Below.alloc ?_ (by simp) _ | refine Below.drew ?_)) (hb.mono (by simp; omega)))
        clear hb
        cases hv : isR x y
        · have HM := Lib.hid (mk_false (n := n) (d := d) (by rw [HN.out.redN, HN.out.redD]; exact hv))
          go_wp2
          refine bodyPost_ret (v := .tuple #[.agg #[.int .i64 0, .int .i64 0], .bool false]) (by simp [results, Try.results96, go_sem, c00, c01]) rfl ⟨by rw [HM.out.1, HM.out.2.1, HM.out.2.2], ?_⟩
          repeat (first | exact HB.out | refine Below.setCell ?_ (by simp) _)
        · have HM := Lib.hid (mk_true (n := n) (d := d) hd (by rw [HN.out.redN, HN.out.redD]; exact hv))
          go_wp2
          refine bodyPost_ret (v := .tuple #[.agg #[.int .i64 x, .int .i64 y], .bool true]) (by simp [results, Try.results96, go_sem, c00, c01]) rfl ⟨by rw [HM.out.1, HM.out.2.1, HM.out.2.2, HN.out.redN, HN.out.redD], ?_⟩
          repeat (first | exact HB.out | refine Below.setCell ?_ (by simp) _)
end Go.Proofs.Ytedkeobhcpbigaa
/- Fractions: the model's sums, products, opposites and comparisons. -/
namespace Go.Proofs.Ytedkeobhcpbigaa
open Go.RowKit
theorem isR_bd {n d : Int} (h : isR n d = true) : -1000000000 ≤ n ∧ n ≤ 1000000000 ∧ 1 ≤ d ∧ d ≤ 1000000000 := by
  have := isR_true.1 h
  exact ⟨this.1, this.2.1, this.2.2.1, this.2.2.2.1⟩
theorem mul_bd {x y : Int} (h1 : -1000000000 ≤ x) (h2 : x ≤ 1000000000) (h3 : -1000000000 ≤ y) (h4 : y ≤ 1000000000) : -1000000000000000000 ≤ x * y ∧ x * y ≤ 1000000000000000000 := by
  have h : (x * y).natAbs ≤ 1000000000 * 1000000000 := by
    rw [Int.natAbs_mul]
    exact Nat.mul_le_mul (by omega) (by omega)
  omega
def addOk (a b c d : Int) : Bool := decide (AddOk a b c d)
def mulOk (a b c d : Int) : Bool := decide (MulOk a b c d)
theorem add_yes {a b c d : Int} (h1 : isR a b = true) (h2 : isR c d = true) : addN a b c d = mkN (a * d + c * b) (b * d) ∧ addD a b c d = mkD (a * d + c * b) (b * d) ∧ addOk a b c d = mkOk (a * d + c * b) (b * d) := by
  have v1 := isR_true.1 h1
  have v2 := isR_true.1 h2
  unfold addN addD addOk mkOk
  by_cases h : MkOk (a * d + c * b) (b * d)
  · have ok : AddOk a b c d := ⟨v1, v2, h⟩
    rw [if_pos ok, if_pos ok]
    exact ⟨rfl, rfl, by simp [ok, h]⟩
  · have no : ¬ AddOk a b c d := fun x => h x.2.2
    rw [if_neg no, if_neg no]
    exact ⟨(mk_no h).1.symm, (mk_no h).2.symm, by simp [no, h]⟩
theorem add_none {a b c d : Int} (h : ¬ (isR a b = true ∧ isR c d = true)) : addN a b c d = 0 ∧ addD a b c d = 0 ∧ addOk a b c d = false := by
  have no : ¬ AddOk a b c d := fun x => h ⟨isR_true.2 x.1, isR_true.2 x.2.1⟩
  unfold addN addD addOk
  rw [if_neg no, if_neg no]
  exact ⟨rfl, rfl, by simp [no]⟩
theorem mul_yes {a b c d : Int} (h1 : isR a b = true) (h2 : isR c d = true) : mulN a b c d = mkN (a * c) (b * d) ∧ mulD a b c d = mkD (a * c) (b * d) ∧ mulOk a b c d = mkOk (a * c) (b * d) := by
  have v1 := isR_true.1 h1
  have v2 := isR_true.1 h2
  unfold mulN mulD mulOk mkOk
  by_cases h : MkOk (a * c) (b * d)
  · have ok : MulOk a b c d := ⟨v1, v2, h⟩
    rw [if_pos ok, if_pos ok]
    exact ⟨rfl, rfl, by simp [ok, h]⟩
  · have no : ¬ MulOk a b c d := fun x => h x.2.2
    rw [if_neg no, if_neg no]
    exact ⟨(mk_no h).1.symm, (mk_no h).2.symm, by simp [no, h]⟩
theorem mul_none {a b c d : Int} (h : ¬ (isR a b = true ∧ isR c d = true)) : mulN a b c d = 0 ∧ mulD a b c d = 0 ∧ mulOk a b c d = false := by
  have no : ¬ MulOk a b c d := fun x => h ⟨isR_true.2 x.1, isR_true.2 x.2.1⟩
  unfold mulN mulD mulOk
  rw [if_neg no, if_neg no]
  exact ⟨rfl, rfl, by simp [no]⟩
/-- The number that a product or a sum is, under a name. -/
theorem specMkV_any (n d x y : Int) (b : Bool) (w : World) (h0 : -4000000000000000000 ≤ n) (h1 : n ≤ 4000000000000000000) (h2 : -4000000000000000000 ≤ d) (h3 : d ≤ 4000000000000000000) (hx : x = mkN n d) (hy : y = mkD n d) (hb : b = mkOk n d) :
    Calls Try.prog 96 #[.int .i64 n, .int .i64 d] w (RatRes x y b w) := by
  subst hx hy hb
  exact specMk_any n d w h0 h1 h2 h3
set_option maxHeartbeats 1600000 in
theorem specAdd_any (a b c d : Int) (w : World) : Calls Try.prog 98 #[.agg #[.int .i64 a, .int .i64 b], .agg #[.int .i64 c, .int .i64 d]] w (RatRes (addN a b c d) (addD a b c d) (addOk a b c d) w) := by
  obtain ⟨x, hx⟩ : ∃ x, x = addN a b c d := ⟨_, rfl⟩
  obtain ⟨y, hy⟩ : ∃ y, y = addD a b c d := ⟨_, rfl⟩
  obtain ⟨t, ht⟩ : ∃ t, t = addOk a b c d := ⟨_, rfl⟩
  rw [← hx, ← hy, ← ht]
  have HX := Lib.hid hx
  have HY := Lib.hid hy
  have HT := Lib.hid ht
  clear hx hy ht
  cases hv1 : isR a b
  · have HN := Lib.hid (add_none (a := a) (b := b) (c := c) (d := d) (by simp [hv1]))
    go_enter Try.func98, Try.ntmps98
    go_wp2_with fail
    go_at_call 104
    refine (specIsR_any a b _).mono ?_
    rintro e w1 ⟨rfl, hb1⟩
    have c_w1_00 : w1.cell? ⟨w.heap.size, 0, none⟩ = some (.int .i64 a) := (hb1.cell (p := ⟨w.heap.size, 0, none⟩) (by simp <;> omega)).trans (by go_simp)
    have c_w1_01 : w1.cell? ⟨w.heap.size, 1, none⟩ = some (.int .i64 b) := (hb1.cell (p := ⟨w.heap.size, 1, none⟩) (by simp <;> omega)).trans (by go_simp)
    have c_w1_10 : w1.cell? ⟨w.heap.size + 1, 0, none⟩ = some (.int .i64 c) := (hb1.cell (p := ⟨w.heap.size + 1, 0, none⟩) (by simp <;> omega)).trans (by go_simp)
    have c_w1_11 : w1.cell? ⟨w.heap.size + 1, 1, none⟩ = some (.int .i64 d) := (hb1.cell (p := ⟨w.heap.size + 1, 1, none⟩) (by simp <;> omega)).trans (by go_simp)
    have c_w1_20 : w1.cell? ⟨w.heap.size + 2, 0, none⟩ = some (.int .i64 0) := (hb1.cell (p := ⟨w.heap.size + 2, 0, none⟩) (by simp <;> omega)).trans (by go_simp)
    have f_w1_20 : w1.frozen? ⟨w.heap.size + 2, 0, none⟩ = false := (hb1.frozen (p := ⟨w.heap.size + 2, 0, none⟩) (by simp <;> omega)).trans (by go_simp)
    have c_w1_21 : w1.cell? ⟨w.heap.size + 2, 1, none⟩ = some (.int .i64 0) := (hb1.cell (p := ⟨w.heap.size + 2, 1, none⟩) (by simp <;> omega)).trans (by go_simp)
    have f_w1_21 : w1.frozen? ⟨w.heap.size + 2, 1, none⟩ = false := (hb1.frozen (p := ⟨w.heap.size + 2, 1, none⟩) (by simp <;> omega)).trans (by go_simp)
    have hz1 : w.heap.size + 2 < w1.heap.size := by have := hb1.size; simp at this; omega
    have HB1 := Lib.hid (Below.trans (show Below w.heap.size w _ by repeat (first | exact Below.refl _ _ | refine Below.alloc ?_ (by simp <;> omega) _ | refine Below.drew ?_)) (hb1.mono (by simp <;> omega)))
    clear hb1
    go_wp2
    refine bodyPost_ret (v := .tuple #[.agg #[.int .i64 0, .int .i64 0], .bool false]) (by simp [results, Try.results98, go_sem, c_w1_20, c_w1_21]) rfl ⟨by rw [HX.out, HY.out, HT.out, HN.out.1, HN.out.2.1, HN.out.2.2], ?_⟩
    repeat (first | exact HB1.out | refine Below.setCell ?_ (by simp <;> omega) _)
  · cases hv2 : isR c d
    · have HN := Lib.hid (add_none (a := a) (b := b) (c := c) (d := d) (by simp [hv2]))
      go_enter Try.func98, Try.ntmps98
      go_wp2_with fail
      go_at_call 104
      refine (specIsR_any a b _).mono ?_
      rintro e w1 ⟨rfl, hb1⟩
      have c_w1_00 : w1.cell? ⟨w.heap.size, 0, none⟩ = some (.int .i64 a) := (hb1.cell (p := ⟨w.heap.size, 0, none⟩) (by simp <;> omega)).trans (by go_simp)
      have c_w1_01 : w1.cell? ⟨w.heap.size, 1, none⟩ = some (.int .i64 b) := (hb1.cell (p := ⟨w.heap.size, 1, none⟩) (by simp <;> omega)).trans (by go_simp)
      have c_w1_10 : w1.cell? ⟨w.heap.size + 1, 0, none⟩ = some (.int .i64 c) := (hb1.cell (p := ⟨w.heap.size + 1, 0, none⟩) (by simp <;> omega)).trans (by go_simp)
      have c_w1_11 : w1.cell? ⟨w.heap.size + 1, 1, none⟩ = some (.int .i64 d) := (hb1.cell (p := ⟨w.heap.size + 1, 1, none⟩) (by simp <;> omega)).trans (by go_simp)
      have c_w1_20 : w1.cell? ⟨w.heap.size + 2, 0, none⟩ = some (.int .i64 0) := (hb1.cell (p := ⟨w.heap.size + 2, 0, none⟩) (by simp <;> omega)).trans (by go_simp)
      have f_w1_20 : w1.frozen? ⟨w.heap.size + 2, 0, none⟩ = false := (hb1.frozen (p := ⟨w.heap.size + 2, 0, none⟩) (by simp <;> omega)).trans (by go_simp)
      have c_w1_21 : w1.cell? ⟨w.heap.size + 2, 1, none⟩ = some (.int .i64 0) := (hb1.cell (p := ⟨w.heap.size + 2, 1, none⟩) (by simp <;> omega)).trans (by go_simp)
      have f_w1_21 : w1.frozen? ⟨w.heap.size + 2, 1, none⟩ = false := (hb1.frozen (p := ⟨w.heap.size + 2, 1, none⟩) (by simp <;> omega)).trans (by go_simp)
      have hz1 : w.heap.size + 2 < w1.heap.size := by have := hb1.size; simp at this; omega
      have HB1 := Lib.hid (Below.trans (show Below w.heap.size w _ by repeat (first | exact Below.refl _ _ | refine Below.alloc ?_ (by simp <;> omega) _ | refine Below.drew ?_)) (hb1.mono (by simp <;> omega)))
      clear hb1
      go_wp2_with fail
      go_at_call 104
      refine (specIsR_any c d _).mono ?_
      rintro e w2 ⟨rfl, hb2⟩
      have c_w2_00 : w2.cell? ⟨w.heap.size, 0, none⟩ = some (.int .i64 a) := (hb2.cell (p := ⟨w.heap.size, 0, none⟩) (by dsimp only; omega)).trans c_w1_00
      have c_w2_01 : w2.cell? ⟨w.heap.size, 1, none⟩ = some (.int .i64 b) := (hb2.cell (p := ⟨w.heap.size, 1, none⟩) (by dsimp only; omega)).trans c_w1_01
      have c_w2_10 : w2.cell? ⟨w.heap.size + 1, 0, none⟩ = some (.int .i64 c) := (hb2.cell (p := ⟨w.heap.size + 1, 0, none⟩) (by dsimp only; omega)).trans c_w1_10
      have c_w2_11 : w2.cell? ⟨w.heap.size + 1, 1, none⟩ = some (.int .i64 d) := (hb2.cell (p := ⟨w.heap.size + 1, 1, none⟩) (by dsimp only; omega)).trans c_w1_11
      have c_w2_20 : w2.cell? ⟨w.heap.size + 2, 0, none⟩ = some (.int .i64 0) := (hb2.cell (p := ⟨w.heap.size + 2, 0, none⟩) (by dsimp only; omega)).trans c_w1_20
      have f_w2_20 : w2.frozen? ⟨w.heap.size + 2, 0, none⟩ = false := (hb2.frozen (p := ⟨w.heap.size + 2, 0, none⟩) (by dsimp only; omega)).trans f_w1_20
      have c_w2_21 : w2.cell? ⟨w.heap.size + 2, 1, none⟩ = some (.int .i64 0) := (hb2.cell (p := ⟨w.heap.size + 2, 1, none⟩) (by dsimp only; omega)).trans c_w1_21
      have f_w2_21 : w2.frozen? ⟨w.heap.size + 2, 1, none⟩ = false := (hb2.frozen (p := ⟨w.heap.size + 2, 1, none⟩) (by dsimp only; omega)).trans f_w1_21
      have hz2 : w.heap.size + 2 < w2.heap.size := Nat.lt_of_lt_of_le hz1 hb2.size
      have HB2 := Lib.hid (HB1.out.trans (hb2.mono (by omega)))
      clear hb2
      go_wp2
      refine bodyPost_ret (v := .tuple #[.agg #[.int .i64 0, .int .i64 0], .bool false]) (by simp [results, Try.results98, go_sem, c_w2_20, c_w2_21]) rfl ⟨by rw [HX.out, HY.out, HT.out, HN.out.1, HN.out.2.1, HN.out.2.2], ?_⟩
      repeat (first | exact HB2.out | refine Below.setCell ?_ (by simp <;> omega) _)
    · have HV := Lib.hid (add_yes hv1 hv2)
      obtain ⟨a0, a1, b0, b1⟩ := isR_bd hv1
      obtain ⟨c0, c1, d0, d1⟩ := isR_bd hv2
      obtain ⟨p0, q0⟩ := mul_bd (x := a) (y := d) (by omega) (by omega) (by omega) (by omega)
      obtain ⟨p1, q1⟩ := mul_bd (x := c) (y := b) (by omega) (by omega) (by omega) (by omega)
      obtain ⟨p2, q2⟩ := mul_bd (x := b) (y := d) (by omega) (by omega) (by omega) (by omega)
      go_enter Try.func98, Try.ntmps98
      go_wp2_with fail
      go_at_call 104
      refine (specIsR_any a b _).mono ?_
      rintro e w1 ⟨rfl, hb1⟩
      have c_w1_00 : w1.cell? ⟨w.heap.size, 0, none⟩ = some (.int .i64 a) := (hb1.cell (p := ⟨w.heap.size, 0, none⟩) (by simp <;> omega)).trans (by go_simp)
      have c_w1_01 : w1.cell? ⟨w.heap.size, 1, none⟩ = some (.int .i64 b) := (hb1.cell (p := ⟨w.heap.size, 1, none⟩) (by simp <;> omega)).trans (by go_simp)
      have c_w1_10 : w1.cell? ⟨w.heap.size + 1, 0, none⟩ = some (.int .i64 c) := (hb1.cell (p := ⟨w.heap.size + 1, 0, none⟩) (by simp <;> omega)).trans (by go_simp)
      have c_w1_11 : w1.cell? ⟨w.heap.size + 1, 1, none⟩ = some (.int .i64 d) := (hb1.cell (p := ⟨w.heap.size + 1, 1, none⟩) (by simp <;> omega)).trans (by go_simp)
      have c_w1_20 : w1.cell? ⟨w.heap.size + 2, 0, none⟩ = some (.int .i64 0) := (hb1.cell (p := ⟨w.heap.size + 2, 0, none⟩) (by simp <;> omega)).trans (by go_simp)
      have f_w1_20 : w1.frozen? ⟨w.heap.size + 2, 0, none⟩ = false := (hb1.frozen (p := ⟨w.heap.size + 2, 0, none⟩) (by simp <;> omega)).trans (by go_simp)
      have c_w1_21 : w1.cell? ⟨w.heap.size + 2, 1, none⟩ = some (.int .i64 0) := (hb1.cell (p := ⟨w.heap.size + 2, 1, none⟩) (by simp <;> omega)).trans (by go_simp)
      have f_w1_21 : w1.frozen? ⟨w.heap.size + 2, 1, none⟩ = false := (hb1.frozen (p := ⟨w.heap.size + 2, 1, none⟩) (by simp <;> omega)).trans (by go_simp)
      have hz1 : w.heap.size + 2 < w1.heap.size := by have := hb1.size; simp at this; omega
      have HB1 := Lib.hid (Below.trans (show Below w.heap.size w _ by repeat (first | exact Below.refl _ _ | refine Below.alloc ?_ (by simp <;> omega) _ | refine Below.drew ?_)) (hb1.mono (by simp <;> omega)))
      clear hb1
      go_wp2_with fail
      go_at_call 104
      refine (specIsR_any c d _).mono ?_
      rintro e w2 ⟨rfl, hb2⟩
      have c_w2_00 : w2.cell? ⟨w.heap.size, 0, none⟩ = some (.int .i64 a) := (hb2.cell (p := ⟨w.heap.size, 0, none⟩) (by dsimp only; omega)).trans c_w1_00
      have c_w2_01 : w2.cell? ⟨w.heap.size, 1, none⟩ = some (.int .i64 b) := (hb2.cell (p := ⟨w.heap.size, 1, none⟩) (by dsimp only; omega)).trans c_w1_01
      have c_w2_10 : w2.cell? ⟨w.heap.size + 1, 0, none⟩ = some (.int .i64 c) := (hb2.cell (p := ⟨w.heap.size + 1, 0, none⟩) (by dsimp only; omega)).trans c_w1_10
      have c_w2_11 : w2.cell? ⟨w.heap.size + 1, 1, none⟩ = some (.int .i64 d) := (hb2.cell (p := ⟨w.heap.size + 1, 1, none⟩) (by dsimp only; omega)).trans c_w1_11
      have c_w2_20 : w2.cell? ⟨w.heap.size + 2, 0, none⟩ = some (.int .i64 0) := (hb2.cell (p := ⟨w.heap.size + 2, 0, none⟩) (by dsimp only; omega)).trans c_w1_20
      have f_w2_20 : w2.frozen? ⟨w.heap.size + 2, 0, none⟩ = false := (hb2.frozen (p := ⟨w.heap.size + 2, 0, none⟩) (by dsimp only; omega)).trans f_w1_20
      have c_w2_21 : w2.cell? ⟨w.heap.size + 2, 1, none⟩ = some (.int .i64 0) := (hb2.cell (p := ⟨w.heap.size + 2, 1, none⟩) (by dsimp only; omega)).trans c_w1_21
      have f_w2_21 : w2.frozen? ⟨w.heap.size + 2, 1, none⟩ = false := (hb2.frozen (p := ⟨w.heap.size + 2, 1, none⟩) (by dsimp only; omega)).trans f_w1_21
      have hz2 : w.heap.size + 2 < w2.heap.size := Nat.lt_of_lt_of_le hz1 hb2.size
      have HB2 := Lib.hid (HB1.out.trans (hb2.mono (by omega)))
      clear hb2
      go_wp2_with fail
      go_at_call 96
      refine (specMkV_any (a * d + c * b) (b * d) x y t _ (by omega) (by omega) (by omega) (by omega) (by rw [HX.out, HV.out.1]) (by rw [HY.out, HV.out.2.1]) (by rw [HT.out, HV.out.2.2])).mono ?_
      rintro e w3 ⟨rfl, hb3⟩
      have c_w3_20 : w3.cell? ⟨w.heap.size + 2, 0, none⟩ = some (.int .i64 0) := (hb3.cell (p := ⟨w.heap.size + 2, 0, none⟩) (by dsimp only; omega)).trans c_w2_20
      have f_w3_20 : w3.frozen? ⟨w.heap.size + 2, 0, none⟩ = false := (hb3.frozen (p := ⟨w.heap.size + 2, 0, none⟩) (by dsimp only; omega)).trans f_w2_20
      have c_w3_21 : w3.cell? ⟨w.heap.size + 2, 1, none⟩ = some (.int .i64 0) := (hb3.cell (p := ⟨w.heap.size + 2, 1, none⟩) (by dsimp only; omega)).trans c_w2_21
      have f_w3_21 : w3.frozen? ⟨w.heap.size + 2, 1, none⟩ = false := (hb3.frozen (p := ⟨w.heap.size + 2, 1, none⟩) (by dsimp only; omega)).trans f_w2_21
      have HB3 := Lib.hid (HB2.out.trans (hb3.mono (by omega)))
      clear hb3
      go_wp2
      refine bodyPost_ret (v := .tuple #[.agg #[.int .i64 x, .int .i64 y], .bool t]) (by simp [results, Try.results98, go_sem, c_w3_20, c_w3_21]) rfl ⟨rfl, ?_⟩
      repeat (first | exact HB3.out | refine Below.setCell ?_ (by simp <;> omega) _)
set_option maxHeartbeats 1600000 in
theorem specMul_any (a b c d : Int) (w : World) : Calls Try.prog 97 #[.agg #[.int .i64 a, .int .i64 b], .agg #[.int .i64 c, .int .i64 d]] w (RatRes (mulN a b c d) (mulD a b c d) (mulOk a b c d) w) := by
  obtain ⟨x, hx⟩ : ∃ x, x = mulN a b c d := ⟨_, rfl⟩
  obtain ⟨y, hy⟩ : ∃ y, y = mulD a b c d := ⟨_, rfl⟩
  obtain ⟨t, ht⟩ : ∃ t, t = mulOk a b c d := ⟨_, rfl⟩
  rw [← hx, ← hy, ← ht]
  have HX := Lib.hid hx
  have HY := Lib.hid hy
  have HT := Lib.hid ht
  clear hx hy ht
  cases hv1 : isR a b
  · have HN := Lib.hid (mul_none (a := a) (b := b) (c := c) (d := d) (by simp [hv1]))
    go_enter Try.func97, Try.ntmps97
    go_wp2_with fail
    go_at_call 104
    refine (specIsR_any a b _).mono ?_
    rintro e w1 ⟨rfl, hb1⟩
    have c_w1_00 : w1.cell? ⟨w.heap.size, 0, none⟩ = some (.int .i64 a) := (hb1.cell (p := ⟨w.heap.size, 0, none⟩) (by simp <;> omega)).trans (by go_simp)
    have c_w1_01 : w1.cell? ⟨w.heap.size, 1, none⟩ = some (.int .i64 b) := (hb1.cell (p := ⟨w.heap.size, 1, none⟩) (by simp <;> omega)).trans (by go_simp)
    have c_w1_10 : w1.cell? ⟨w.heap.size + 1, 0, none⟩ = some (.int .i64 c) := (hb1.cell (p := ⟨w.heap.size + 1, 0, none⟩) (by simp <;> omega)).trans (by go_simp)
    have c_w1_11 : w1.cell? ⟨w.heap.size + 1, 1, none⟩ = some (.int .i64 d) := (hb1.cell (p := ⟨w.heap.size + 1, 1, none⟩) (by simp <;> omega)).trans (by go_simp)
    have c_w1_20 : w1.cell? ⟨w.heap.size + 2, 0, none⟩ = some (.int .i64 0) := (hb1.cell (p := ⟨w.heap.size + 2, 0, none⟩) (by simp <;> omega)).trans (by go_simp)
    have f_w1_20 : w1.frozen? ⟨w.heap.size + 2, 0, none⟩ = false := (hb1.frozen (p := ⟨w.heap.size + 2, 0, none⟩) (by simp <;> omega)).trans (by go_simp)
    have c_w1_21 : w1.cell? ⟨w.heap.size + 2, 1, none⟩ = some (.int .i64 0) := (hb1.cell (p := ⟨w.heap.size + 2, 1, none⟩) (by simp <;> omega)).trans (by go_simp)
    have f_w1_21 : w1.frozen? ⟨w.heap.size + 2, 1, none⟩ = false := (hb1.frozen (p := ⟨w.heap.size + 2, 1, none⟩) (by simp <;> omega)).trans (by go_simp)
    have hz1 : w.heap.size + 2 < w1.heap.size := by have := hb1.size; simp at this; omega
    have HB1 := Lib.hid (Below.trans (show Below w.heap.size w _ by repeat (first | exact Below.refl _ _ | refine Below.alloc ?_ (by simp <;> omega) _ | refine Below.drew ?_)) (hb1.mono (by simp <;> omega)))
    clear hb1
    go_wp2
    refine bodyPost_ret (v := .tuple #[.agg #[.int .i64 0, .int .i64 0], .bool false]) (by simp [results, Try.results97, go_sem, c_w1_20, c_w1_21]) rfl ⟨by rw [HX.out, HY.out, HT.out, HN.out.1, HN.out.2.1, HN.out.2.2], ?_⟩
    repeat (first | exact HB1.out | refine Below.setCell ?_ (by simp <;> omega) _)
  · cases hv2 : isR c d
    · have HN := Lib.hid (mul_none (a := a) (b := b) (c := c) (d := d) (by simp [hv2]))
      go_enter Try.func97, Try.ntmps97
      go_wp2_with fail
      go_at_call 104
      refine (specIsR_any a b _).mono ?_
      rintro e w1 ⟨rfl, hb1⟩
      have c_w1_00 : w1.cell? ⟨w.heap.size, 0, none⟩ = some (.int .i64 a) := (hb1.cell (p := ⟨w.heap.size, 0, none⟩) (by simp <;> omega)).trans (by go_simp)
      have c_w1_01 : w1.cell? ⟨w.heap.size, 1, none⟩ = some (.int .i64 b) := (hb1.cell (p := ⟨w.heap.size, 1, none⟩) (by simp <;> omega)).trans (by go_simp)
      have c_w1_10 : w1.cell? ⟨w.heap.size + 1, 0, none⟩ = some (.int .i64 c) := (hb1.cell (p := ⟨w.heap.size + 1, 0, none⟩) (by simp <;> omega)).trans (by go_simp)
      have c_w1_11 : w1.cell? ⟨w.heap.size + 1, 1, none⟩ = some (.int .i64 d) := (hb1.cell (p := ⟨w.heap.size + 1, 1, none⟩) (by simp <;> omega)).trans (by go_simp)
      have c_w1_20 : w1.cell? ⟨w.heap.size + 2, 0, none⟩ = some (.int .i64 0) := (hb1.cell (p := ⟨w.heap.size + 2, 0, none⟩) (by simp <;> omega)).trans (by go_simp)
      have f_w1_20 : w1.frozen? ⟨w.heap.size + 2, 0, none⟩ = false := (hb1.frozen (p := ⟨w.heap.size + 2, 0, none⟩) (by simp <;> omega)).trans (by go_simp)
      have c_w1_21 : w1.cell? ⟨w.heap.size + 2, 1, none⟩ = some (.int .i64 0) := (hb1.cell (p := ⟨w.heap.size + 2, 1, none⟩) (by simp <;> omega)).trans (by go_simp)
      have f_w1_21 : w1.frozen? ⟨w.heap.size + 2, 1, none⟩ = false := (hb1.frozen (p := ⟨w.heap.size + 2, 1, none⟩) (by simp <;> omega)).trans (by go_simp)
      have hz1 : w.heap.size + 2 < w1.heap.size := by have := hb1.size; simp at this; omega
      have HB1 := Lib.hid (Below.trans (show Below w.heap.size w _ by repeat (first | exact Below.refl _ _ | refine Below.alloc ?_ (by simp <;> omega) _ | refine Below.drew ?_)) (hb1.mono (by simp <;> omega)))
      clear hb1
      go_wp2_with fail
      go_at_call 104
      refine (specIsR_any c d _).mono ?_
      rintro e w2 ⟨rfl, hb2⟩
      have c_w2_00 : w2.cell? ⟨w.heap.size, 0, none⟩ = some (.int .i64 a) := (hb2.cell (p := ⟨w.heap.size, 0, none⟩) (by dsimp only; omega)).trans c_w1_00
      have c_w2_01 : w2.cell? ⟨w.heap.size, 1, none⟩ = some (.int .i64 b) := (hb2.cell (p := ⟨w.heap.size, 1, none⟩) (by dsimp only; omega)).trans c_w1_01
      have c_w2_10 : w2.cell? ⟨w.heap.size + 1, 0, none⟩ = some (.int .i64 c) := (hb2.cell (p := ⟨w.heap.size + 1, 0, none⟩) (by dsimp only; omega)).trans c_w1_10
      have c_w2_11 : w2.cell? ⟨w.heap.size + 1, 1, none⟩ = some (.int .i64 d) := (hb2.cell (p := ⟨w.heap.size + 1, 1, none⟩) (by dsimp only; omega)).trans c_w1_11
      have c_w2_20 : w2.cell? ⟨w.heap.size + 2, 0, none⟩ = some (.int .i64 0) := (hb2.cell (p := ⟨w.heap.size + 2, 0, none⟩) (by dsimp only; omega)).trans c_w1_20
      have f_w2_20 : w2.frozen? ⟨w.heap.size + 2, 0, none⟩ = false := (hb2.frozen (p := ⟨w.heap.size + 2, 0, none⟩) (by dsimp only; omega)).trans f_w1_20
      have c_w2_21 : w2.cell? ⟨w.heap.size + 2, 1, none⟩ = some (.int .i64 0) := (hb2.cell (p := ⟨w.heap.size + 2, 1, none⟩) (by dsimp only; omega)).trans c_w1_21
      have f_w2_21 : w2.frozen? ⟨w.heap.size + 2, 1, none⟩ = false := (hb2.frozen (p := ⟨w.heap.size + 2, 1, none⟩) (by dsimp only; omega)).trans f_w1_21
      have hz2 : w.heap.size + 2 < w2.heap.size := Nat.lt_of_lt_of_le hz1 hb2.size
      have HB2 := Lib.hid (HB1.out.trans (hb2.mono (by omega)))
      clear hb2
      go_wp2
      refine bodyPost_ret (v := .tuple #[.agg #[.int .i64 0, .int .i64 0], .bool false]) (by simp [results, Try.results97, go_sem, c_w2_20, c_w2_21]) rfl ⟨by rw [HX.out, HY.out, HT.out, HN.out.1, HN.out.2.1, HN.out.2.2], ?_⟩
      repeat (first | exact HB2.out | refine Below.setCell ?_ (by simp <;> omega) _)
    · have HV := Lib.hid (mul_yes hv1 hv2)
      obtain ⟨a0, a1, b0, b1⟩ := isR_bd hv1
      obtain ⟨c0, c1, d0, d1⟩ := isR_bd hv2
      obtain ⟨p0, q0⟩ := mul_bd (x := a) (y := c) (by omega) (by omega) (by omega) (by omega)
      obtain ⟨p1, q1⟩ := mul_bd (x := b) (y := d) (by omega) (by omega) (by omega) (by omega)
      go_enter Try.func97, Try.ntmps97
      go_wp2_with fail
      go_at_call 104
      refine (specIsR_any a b _).mono ?_
      rintro e w1 ⟨rfl, hb1⟩
      have c_w1_00 : w1.cell? ⟨w.heap.size, 0, none⟩ = some (.int .i64 a) := (hb1.cell (p := ⟨w.heap.size, 0, none⟩) (by simp <;> omega)).trans (by go_simp)
      have c_w1_01 : w1.cell? ⟨w.heap.size, 1, none⟩ = some (.int .i64 b) := (hb1.cell (p := ⟨w.heap.size, 1, none⟩) (by simp <;> omega)).trans (by go_simp)
      have c_w1_10 : w1.cell? ⟨w.heap.size + 1, 0, none⟩ = some (.int .i64 c) := (hb1.cell (p := ⟨w.heap.size + 1, 0, none⟩) (by simp <;> omega)).trans (by go_simp)
      have c_w1_11 : w1.cell? ⟨w.heap.size + 1, 1, none⟩ = some (.int .i64 d) := (hb1.cell (p := ⟨w.heap.size + 1, 1, none⟩) (by simp <;> omega)).trans (by go_simp)
      have c_w1_20 : w1.cell? ⟨w.heap.size + 2, 0, none⟩ = some (.int .i64 0) := (hb1.cell (p := ⟨w.heap.size + 2, 0, none⟩) (by simp <;> omega)).trans (by go_simp)
      have f_w1_20 : w1.frozen? ⟨w.heap.size + 2, 0, none⟩ = false := (hb1.frozen (p := ⟨w.heap.size + 2, 0, none⟩) (by simp <;> omega)).trans (by go_simp)
      have c_w1_21 : w1.cell? ⟨w.heap.size + 2, 1, none⟩ = some (.int .i64 0) := (hb1.cell (p := ⟨w.heap.size + 2, 1, none⟩) (by simp <;> omega)).trans (by go_simp)
      have f_w1_21 : w1.frozen? ⟨w.heap.size + 2, 1, none⟩ = false := (hb1.frozen (p := ⟨w.heap.size + 2, 1, none⟩) (by simp <;> omega)).trans (by go_simp)
      have hz1 : w.heap.size + 2 < w1.heap.size := by have := hb1.size; simp at this; omega
      have HB1 := Lib.hid (Below.trans (show Below w.heap.size w _ by repeat (first | exact Below.refl _ _ | refine Below.alloc ?_ (by simp <;> omega) _ | refine Below.drew ?_)) (hb1.mono (by simp <;> omega)))
      clear hb1
      go_wp2_with fail
      go_at_call 104
      refine (specIsR_any c d _).mono ?_
      rintro e w2 ⟨rfl, hb2⟩
      have c_w2_00 : w2.cell? ⟨w.heap.size, 0, none⟩ = some (.int .i64 a) := (hb2.cell (p := ⟨w.heap.size, 0, none⟩) (by dsimp only; omega)).trans c_w1_00
      have c_w2_01 : w2.cell? ⟨w.heap.size, 1, none⟩ = some (.int .i64 b) := (hb2.cell (p := ⟨w.heap.size, 1, none⟩) (by dsimp only; omega)).trans c_w1_01
      have c_w2_10 : w2.cell? ⟨w.heap.size + 1, 0, none⟩ = some (.int .i64 c) := (hb2.cell (p := ⟨w.heap.size + 1, 0, none⟩) (by dsimp only; omega)).trans c_w1_10
      have c_w2_11 : w2.cell? ⟨w.heap.size + 1, 1, none⟩ = some (.int .i64 d) := (hb2.cell (p := ⟨w.heap.size + 1, 1, none⟩) (by dsimp only; omega)).trans c_w1_11
      have c_w2_20 : w2.cell? ⟨w.heap.size + 2, 0, none⟩ = some (.int .i64 0) := (hb2.cell (p := ⟨w.heap.size + 2, 0, none⟩) (by dsimp only; omega)).trans c_w1_20
      have f_w2_20 : w2.frozen? ⟨w.heap.size + 2, 0, none⟩ = false := (hb2.frozen (p := ⟨w.heap.size + 2, 0, none⟩) (by dsimp only; omega)).trans f_w1_20
      have c_w2_21 : w2.cell? ⟨w.heap.size + 2, 1, none⟩ = some (.int .i64 0) := (hb2.cell (p := ⟨w.heap.size + 2, 1, none⟩) (by dsimp only; omega)).trans c_w1_21
      have f_w2_21 : w2.frozen? ⟨w.heap.size + 2, 1, none⟩ = false := (hb2.frozen (p := ⟨w.heap.size + 2, 1, none⟩) (by dsimp only; omega)).trans f_w1_21
      have hz2 : w.heap.size + 2 < w2.heap.size := Nat.lt_of_lt_of_le hz1 hb2.size
      have HB2 := Lib.hid (HB1.out.trans (hb2.mono (by omega)))
      clear hb2
      go_wp2_with fail
      go_at_call 96
      refine (specMkV_any (a * c) (b * d) x y t _ (by omega) (by omega) (by omega) (by omega) (by rw [HX.out, HV.out.1]) (by rw [HY.out, HV.out.2.1]) (by rw [HT.out, HV.out.2.2])).mono ?_
      rintro e w3 ⟨rfl, hb3⟩
      have c_w3_20 : w3.cell? ⟨w.heap.size + 2, 0, none⟩ = some (.int .i64 0) := (hb3.cell (p := ⟨w.heap.size + 2, 0, none⟩) (by dsimp only; omega)).trans c_w2_20
      have f_w3_20 : w3.frozen? ⟨w.heap.size + 2, 0, none⟩ = false := (hb3.frozen (p := ⟨w.heap.size + 2, 0, none⟩) (by dsimp only; omega)).trans f_w2_20
      have c_w3_21 : w3.cell? ⟨w.heap.size + 2, 1, none⟩ = some (.int .i64 0) := (hb3.cell (p := ⟨w.heap.size + 2, 1, none⟩) (by dsimp only; omega)).trans c_w2_21
      have f_w3_21 : w3.frozen? ⟨w.heap.size + 2, 1, none⟩ = false := (hb3.frozen (p := ⟨w.heap.size + 2, 1, none⟩) (by dsimp only; omega)).trans f_w2_21
      have HB3 := Lib.hid (HB2.out.trans (hb3.mono (by omega)))
      clear hb3
      go_wp2
      refine bodyPost_ret (v := .tuple #[.agg #[.int .i64 x, .int .i64 y], .bool t]) (by simp [results, Try.results97, go_sem, c_w3_20, c_w3_21]) rfl ⟨rfl, ?_⟩
      repeat (first | exact HB3.out | refine Below.setCell ?_ (by simp <;> omega) _)
end Go.Proofs.Ytedkeobhcpbigaa
/- Fractions: the model's opposites, comparisons and made fractions; what the laws do to a fraction. -/
namespace Go.Proofs.Ytedkeobhcpbigaa
open Go.RowKit
/-- A fraction. -/
def RatV (x y : Int) (w : World) (e : Ending) (w' : World) : Prop := e = .returned (.agg #[.int .i64 x, .int .i64 y]) ∧ Below w.heap.size w w'
theorem neg_yes {a b : Int} (h : isR a b = true) : negN a b = -a ∧ negD a b = b := by
  have v := isR_true.1 h
  unfold negN negD
  rw [if_pos v, if_pos v]
  exact ⟨rfl, rfl⟩
theorem neg_none {a b : Int} (h : isR a b = false) : negN a b = 0 ∧ negD a b = 0 := by
  have v := isR_false.1 h
  unfold negN negD
  rw [if_neg v, if_neg v]
  exact ⟨rfl, rfl⟩
theorem cmp_yes {a b c d : Int} (h1 : isR a b = true) (h2 : isR c d = true) : cmpV a b c d = if a * d < c * b then -1 else if c * b < a * d then 1 else 0 := by
  unfold cmpV
  rw [if_pos ⟨isR_true.1 h1, isR_true.1 h2⟩]
theorem cmp_none {a b c d : Int} (h : ¬ (isR a b = true ∧ isR c d = true)) : cmpV a b c d = 0 := by
  unfold cmpV
  rw [if_neg fun x => h ⟨isR_true.2 x.1, isR_true.2 x.2⟩]
def mrOk (n d : Int) : Bool := inR n (-1000000000) 1000000000 && (inR d (-1000000000) 1000000000 && mkOk n d)
def mrN (n d : Int) : Int := if inR n (-1000000000) 1000000000 && inR d (-1000000000) 1000000000 then mkN n d else 0
def mrD (n d : Int) : Int := if inR n (-1000000000) 1000000000 && inR d (-1000000000) 1000000000 then mkD n d else 0
theorem mr_yes {n d : Int} (h1 : inR n (-1000000000) 1000000000 = true) (h2 : inR d (-1000000000) 1000000000 = true) : mrN n d = mkN n d ∧ mrD n d = mkD n d ∧ mrOk n d = mkOk n d := by
  simp [mrN, mrD, mrOk, h1, h2]
theorem mr_none {n d : Int} (h : (inR n (-1000000000) 1000000000 && inR d (-1000000000) 1000000000) = false) : mrN n d = 0 ∧ mrD n d = 0 ∧ mrOk n d = false := by
  unfold mrN mrD mrOk
  rw [← Bool.and_assoc, h]
  simp
/-! What the laws do to a fraction. -/
theorem eqRat_yes (x y : Int) (w : World) : Calls Try.prog 34 #[.agg #[.int .i64 x, .int .i64 y], .agg #[.int .i64 x, .int .i64 y]] w fun e w' => e = .returned (.bool true) ∧ Below w.heap.size w w' := by
  go_enter Try.func34, Try.ntmps34
  go_wp2
  go_ret
  exact ⟨rfl, ((Below.refl _ _).alloc (Nat.le_refl _) _).alloc (by simp) _⟩
end Go.Proofs.Ytedkeobhcpbigaa
