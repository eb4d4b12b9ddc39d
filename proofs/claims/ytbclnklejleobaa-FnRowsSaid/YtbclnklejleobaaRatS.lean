/- Fractions: the model's functions. -/
import Derived.Test.YtbclnklejleobaaSl
import Derived.Test.YtbclnklejleobaaGcd
namespace Go.Proofs.Ytbclnklejleobaa
open Go.RowKit
theorem gcd_bool (n d : Int) (h1 : inR n (-1000000000) 1000000000 = true) (h2 : inR d 1 1000000000 = true) : decide ((Int.gcd n d : Int) = 1) = isR n d := by
  obtain ⟨a, b⟩ := inR_true.1 h1
  obtain ⟨c, e⟩ := inR_true.1 h2
  unfold isR
  rw [decide_eq_decide]
  constructor
  · intro h
    exact ⟨a, b, c, e, by omega⟩
  · intro h
    have := h.2.2.2.2
    omega
theorem isR_num {n d : Int} (h : inR n (-1000000000) 1000000000 = false) : isR n d = false := isR_false.2 fun hv => inR_false.1 h ⟨hv.1, hv.2.1⟩
theorem isR_den {n d : Int} (h : inR d 1 1000000000 = false) : isR n d = false := isR_false.2 fun hv => inR_false.1 h ⟨hv.2.2.1, hv.2.2.2.1⟩
theorem specGcdV_any (a b g : Int) (w : World) (hg : (Int.gcd a b : Int) = g) (ha0 : -4000000000000000000 ≤ a) (ha1 : a ≤ 4000000000000000000) (hb0 : -4000000000000000000 ≤ b) (hb1 : b ≤ 4000000000000000000) :
    Calls Try.prog 70 #[.int .i64 a, .int .i64 b] w fun e w' => e = .returned (.int .i64 g) ∧ w = w' :=
  hg ▸ specGcd_any a b w ha0 ha1 hb0 hb1
theorem bcell {W w1 : World} (hb : Below W.heap.size W w1) : (∀ b o, b < W.heap.size → w1.cell? ⟨b, o, none⟩ = W.cell? ⟨b, o, none⟩) ∧ (∀ b o, b < W.heap.size → w1.frozen? ⟨b, o, none⟩ = W.frozen? ⟨b, o, none⟩) :=
  ⟨fun b o h => hb.cell (p := ⟨b, o, none⟩) h, fun b o h => hb.frozen (p := ⟨b, o, none⟩) h⟩
/-- A fraction and whether it is there. -/
def RatRes (x y : Int) (b : Bool) (w : World) (e : Ending) (w' : World) : Prop := e = .returned (.tuple #[.agg #[.int .i64 x, .int .i64 y], .bool b]) ∧ Below w.heap.size w w'
theorem mk_zero (n : Int) : mkOk n 0 = false ∧ mkN n 0 = 0 ∧ mkD n 0 = 0 := by
  have h : ¬ MkOk n 0 := fun h => h.1 rfl
  exact ⟨by simp [mkOk, h], mk_no h⟩
theorem mk_true {n d : Int} (hd : d ≠ 0) (h : isR (redN n d) (redD n d) = true) : mkOk n d = true ∧ mkN n d = redN n d ∧ mkD n d = redD n d := by
  have ok : MkOk n d := ⟨hd, isR_true.1 h⟩
  exact ⟨by simp [mkOk, ok], by unfold mkN; rw [if_pos ok], by unfold mkD; rw [if_pos ok]⟩
theorem mk_false {n d : Int} (h : isR (redN n d) (redD n d) = false) : mkOk n d = false ∧ mkN n d = 0 ∧ mkD n d = 0 := by
  have no : ¬ MkOk n d := fun hv => isR_false.1 h hv.2
  exact ⟨by simp [mkOk, no], mk_no no⟩
theorem div_bd {m g : Int} (hg : 0 < g) (h0 : -4000000000000000000 ≤ m) (h1 : m ≤ 4000000000000000000) (hd : g ∣ m) : -4000000000000000000 ≤ m / g ∧ m / g ≤ 4000000000000000000 := by
  obtain ⟨k, rfl⟩ := hd
  rw [Int.mul_ediv_cancel_left _ (by omega)]
  rcases Int.lt_or_le k 0 with h | h
  · have : g * k ≤ 1 * k := Int.mul_le_mul_of_nonpos_right (by omega) (by omega)
    omega
  · have : 1 * k ≤ g * k := Int.mul_le_mul_of_nonneg_right (by omega) (by omega)
    omega
/-- What is known of a fraction once its sign stands in its numerator. -/
structure Normal (n d m c g x y : Int) : Prop where
  gcd : (Int.gcd m c : Int) = g
  pos : 0 < g
  num : m.tdiv g = x
  den : c.tdiv g = y
  x0 : -4000000000000000000 ≤ x
  x1 : x ≤ 4000000000000000000
  y0 : -4000000000000000000 ≤ y
  y1 : y ≤ 4000000000000000000
  redN : redN n d = x
  redD : redD n d = y
theorem normal_pos {n d : Int} (hd : 0 < d) (h0 : -4000000000000000000 ≤ n) (h1 : n ≤ 4000000000000000000) (h3 : d ≤ 4000000000000000000) : ∃ g x y, Normal n d n d g x y := by
  have e1 : redN n d = n / (Int.gcd n d : Int) := by unfold redN sgn; rw [if_neg (by omega)]
  have e2 : redD n d = d / (Int.gcd n d : Int) := by unfold redD sgn; rw [if_neg (by omega)]
  have b1 := div_bd (gcd_pos (n := n) (d := d) (by omega)) h0 h1 (Int.gcd_dvd_left n d)
  have b2 := div_bd (gcd_pos (n := n) (d := d) (by omega)) (by omega) h3 (Int.gcd_dvd_right n d)
  exact ⟨_, _, _, rfl, gcd_pos (by omega), Int.tdiv_eq_ediv_of_dvd (Int.gcd_dvd_left n d), Int.tdiv_eq_ediv_of_dvd (Int.gcd_dvd_right n d), b1.1, b1.2, b2.1, b2.2, e1, e2⟩
theorem normal_neg {n d : Int} (hd : d < 0) (h0 : -4000000000000000000 ≤ n) (h1 : n ≤ 4000000000000000000) (h2 : -4000000000000000000 ≤ d) : ∃ g x y, Normal n d (-n) (-d) g x y := by
  obtain ⟨g, x, y, h⟩ := normal_pos (n := -n) (d := -d) (by omega) (by omega) (by omega) (by omega)
  have eg : (Int.gcd (-n) (-d)) = Int.gcd n d := by rw [Int.neg_gcd, Int.gcd_neg]
  have e1 : Go.Proofs.Ytbclnklejleobaa.redN n d = x := by
    rw [← h.redN]
    unfold Go.Proofs.Ytbclnklejleobaa.redN sgn
    rw [if_pos hd, if_neg (by omega), eg]
  have e2 : Go.Proofs.Ytbclnklejleobaa.redD n d = y := by
    rw [← h.redD]
    unfold Go.Proofs.Ytbclnklejleobaa.redD sgn
    rw [if_pos hd, if_neg (by omega), eg]
  exact ⟨g, x, y, h.gcd, h.pos, h.num, h.den, h.x0, h.x1, h.y0, h.y1, e1, e2⟩
end Go.Proofs.Ytbclnklejleobaa
