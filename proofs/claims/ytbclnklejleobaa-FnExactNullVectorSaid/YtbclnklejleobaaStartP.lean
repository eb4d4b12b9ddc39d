/- Whether one of the rows begins in a column: the program's, by a closure. -/
import Derived.Test.YtbclnklejleobaaNullW
import Derived.Deep.RegionHeld3
namespace Go.Proofs.Ytbclnklejleobaa
open Go.RowKit
theorem startEq_any (W : World) (a : Option Addr) (n cap : Nat) (zs : List Int) (B k : Nat) (hl : n ≤ 1073741824) (hs : Sees .i64 W a n zs) (hlt : leadL zs < n) (hB : W.cell? ⟨B, 0, none⟩ = some (.int .i64 (k : Int))) :
    Calls Try.prog 64 #[.slice a n cap, .pointer (some ⟨B, 0, none⟩)] W fun e w' => e = .returned (.bool (decide (leadL zs = k))) ∧ Below W.heap.size W w' := by
  have HS := Lib.hid hs
  obtain ⟨d, hd⟩ : ∃ d, d = leadL zs := ⟨_, rfl⟩
  have HSV : Hid (startV zs = (d : Int)) := Lib.hid (by rw [hd]; exact startV_lead (by rw [hs.1]; exact hlt))
  rw [← hd]
  clear hs hlt hd
  go_enter Try.func64, Try.ntmps64
  go_wp2_with fail
  go_region_held3 (fun w' => w'.cell? ⟨B, 0, none⟩ = some (.int .i64 (k : Int))) (go_keep) (first | (go_at_call 47; refine (startOf_any _ a n cap zs hl (HS.out.below (Below.refl _ _).drew)).mono ?_; rw [HSV.out]; rintro e w' ⟨rfl, rfl⟩))
  go_wp2
  go_ret
  exact ⟨ret_bool (by by_cases h : d = k; simp [h]; simp [h]; omega), (Below.refl _ _).drew⟩
/-- The first of the rows that begins in column k, or -1. -/
def idxR (rs : List (List Int)) (k : Nat) : Int := if findA (fun u => if leadL (row rs u) = k then 1 else 0) rs.length 0 = rs.length then -1 else (findA (fun u => if leadL (row rs u) = k then 1 else 0) rs.length 0 : Nat)
theorem idxR_none {rs : List (List Int)} {k : Nat} (h : ∀ u, u < rs.length → leadL (row rs u) ≠ k) : idxR rs k = -1 := by
  unfold idxR
  rw [if_pos]
  exact findA_eq (Nat.zero_le _) (by omega) (fun i _ hi => by rw [if_neg (h i hi)]) (.inl (by omega))
theorem idxR_at {rs : List (List Int)} {k u : Nat} (hu : u < rs.length) (h : ∀ t, t < u → leadL (row rs t) ≠ k) (h1 : leadL (row rs u) = k) : idxR rs k = (u : Int) := by
  have e : findA (fun u => if leadL (row rs u) = k then (1 : Int) else 0) rs.length 0 = u := findA_eq (Nat.zero_le _) (by omega) (fun i _ hi => by rw [if_neg (h i hi)]) (.inr (by rw [if_pos h1]; decide))
  unfold idxR
  rw [e, if_neg (by omega)]
theorem idxR_lead (rs : List (List Int)) (k : Nat) : decide (0 ≤ idxR rs k) = leadIn rs k rs.length := by
  cases h : leadIn rs k rs.length
  · rw [idxR_none (fun u hu => leadIn_false h hu)]
    rfl
  · obtain ⟨t, ht, he⟩ := leadIn_true.1 h
    obtain ⟨_, f2, f3, f4⟩ := findA_spec (fun u => if leadL (row rs u) = k then (1 : Int) else 0) rs.length 0
    have : findA (fun u => if leadL (row rs u) = k then (1 : Int) else 0) rs.length 0 ≠ rs.length := fun e => by
      have := f3 t (Nat.zero_le _) (by omega)
      rw [if_pos he] at this
      exact absurd this (by decide)
    unfold idxR
    rw [if_neg this, decide_eq_true_eq]
    omega
set_option maxHeartbeats 800000 in
theorem idxRow_any (W : World) (a : Option Addr) (cap : Nat) (rs : List (List Int)) (n B k : Nat) (hA : NullAt n rs) (hs : SeesM W a rs.length rs) (hB : W.cell? ⟨B, 0, none⟩ = some (.int .i64 (k : Int))) :
    Calls Try.prog 76 #[.slice a rs.length cap, .func (.func 64) #[] #[.pointer (some ⟨B, 0, none⟩)]] W fun e w' => e = .returned (.int .i64 (idxR rs k)) ∧ Below W.heap.size W w' := by
  have HS := Lib.hid hs
  have HA := Lib.hid hA
  have hBs := World.block_lt_of_cell? W _ hB
  simp only at hBs
  have HBC := Lib.hid hB
  have hr6 : rs.length ≤ 6 := hA.many
  have hn6 : n ≤ 6 := hA.n6
  obtain ⟨v, hv⟩ : ∃ v : Int, v = idxR rs k := ⟨_, rfl⟩
  rw [← hv]
  have HV := Lib.hid hv
  clear hv hs hA hB
  go_enter Try.func76, Try.ntmps76
  go_wp2
  go_loopw [8, 5] (fun i _ wr => ∃ u : Nat, u ≤ rs.length ∧ i = .int .i64 u ∧ Hid (∀ t, t < u → leadL (row rs t) ≠ k) ∧ Below W.heap.size W wr) (fun i _ _ => rs.length - (intOf i).toNat)
  case atStart => exact ⟨0, Nat.zero_le _, rfl, Lib.hid (fun t ht => absurd ht (Nat.not_lt_zero _)), Below.refl _ _⟩
  case round =>
    obtain ⟨u, hu, rfl, HZ, hb⟩ := hrel
    have HB := Lib.hid hb
    have HBW : Hid (wr.cell? ⟨B, 0, none⟩ = some (.int .i64 (k : Int))) := Lib.hid ((hb.cell (p := ⟨B, 0, none⟩) hBs).trans HBC.out)
    by_cases hul : u < rs.length
    · obtain ⟨b5, off5, ar, cr, rfl, hbl, hc, _, _, hsr⟩ := HS.out.2 u hul
      have hcw := (hb.cell (p := ⟨b5, off5 + u, none⟩) hbl).trans hc
      rw [HA.out.wid u hul] at hcw hsr
      have HSR := Lib.hid (hsr.below hb)
      have hn9 : n ≤ 1073741824 := by omega
      clear hc hsr hb
      by_cases hd : leadL (row rs u) = k
      · have HE : Hid (v = u) := Lib.hid (by rw [HV.out]; exact idxR_at hul HZ.out hd)
        have HD : Hid (decide (leadL (row rs u) = k) = true) := Lib.hid (decide_eq_true hd)
        clear hd
        go_wp2_with (go_at_call 64; refine (startEq_any _ ar n cr (row rs u) B k hn9 HSR.out (HA.out.lead u hul) HBW.out).mono ?_; rw [HD.out]; rintro e w1 ⟨rfl, hb1⟩; have HB1 := Lib.hid (below_up HB.out hb1 (Nat.le_refl _)); clear hb1)
        go_ret
        exact ⟨ret_intV HE.out.symm, HB1.out⟩
      · have HD : Hid (decide (leadL (row rs u) = k) = false) := Lib.hid (decide_eq_false hd)
        have HDN := Lib.hid hd
        clear hd
        go_wp2_with (go_at_call 64; refine (startEq_any _ ar n cr (row rs u) B k hn9 HSR.out (HA.out.lead u hul) HBW.out).mono ?_; rw [HD.out]; rintro e w1 ⟨rfl, hb1⟩; have HB1 := Lib.hid (below_up HB.out hb1 (Nat.le_refl _)); clear hb1)
        go_roundw
        case rel => exact ⟨u + 1, by omega, by go_num, Lib.hid (fun t ht => by rcases Nat.lt_or_eq_of_le (Nat.lt_succ_iff.1 ht) with h | h; exact HZ.out t h; subst h; exact HDN.out), HB1.out⟩
        case measure => simp [intOf]; omega
    · obtain rfl : u = rs.length := by omega
      have HE : Hid (v = -1) := Lib.hid (by rw [HV.out]; exact idxR_none HZ.out)
      clear hb
      go_wp2
      go_ret
      exact ⟨ret_intV HE.out.symm, HB.out⟩
theorem isStart_any (W : World) (a : Option Addr) (cap : Nat) (rs : List (List Int)) (n k : Nat) (hA : NullAt n rs) (hs : SeesM W a rs.length rs) :
    Calls Try.prog 43 #[.slice a rs.length cap, .int .i64 (k : Int)] W fun e w' => e = .returned (.bool (leadIn rs k rs.length)) ∧ Below W.heap.size W w' := by
  have HS := Lib.hid hs
  have HA := Lib.hid hA
  have hn6 : n ≤ 6 := hA.n6
  have HL := Lib.hid (idxR_lead rs k)
  obtain ⟨v, hv⟩ : ∃ v : Int, idxR rs k = v := ⟨_, rfl⟩
  have HV := Lib.hid hv
  rw [hv] at HL
  rw [← HL.out]
  clear hv hs hA
  have hcon : ∀ W0 : World, SeesM W0 a rs.length rs → ∀ B, W0.cell? ⟨B, 0, none⟩ = some (.int .i64 (k : Int)) → Calls Try.prog 63 #[.slice a rs.length cap, .func (.func 64) #[] #[.pointer (some ⟨B, 0, none⟩)]] W0 fun e w' => e = .returned (.bool (decide (0 ≤ v))) ∧ Below W0.heap.size W0 w' := by
    intro W0 hs0 B hB
    have HS0 := Lib.hid hs0
    have HB0 := Lib.hid hB
    clear hs0 hB
    go_enter Try.func63, Try.ntmps63
    go_wp2_with (go_at_call 76; refine (idxRow_any _ a cap rs n B k HA.out HS0.out HB0.out).mono ?_; rw [HV.out]; rintro e w1 ⟨rfl, hb1⟩; have HB1 := Lib.hid hb1; clear hb1)
    go_ret
    exact ⟨rfl, HB1.out⟩
  have HC := Lib.hid hcon
  clear hcon
  go_enter Try.func43, Try.ntmps43
  go_wp2_with (go_at_call 63; refine (HC.out _ (HS.out.below ((Below.refl _ _).alloc (Nat.le_refl _) _)) W.heap.size (by simp)).mono ?_; rintro e w1 ⟨rfl, hb1⟩; have HB1 := Lib.hid (below_up ((Below.refl W.heap.size W).alloc (Nat.le_refl _) _) hb1 (Nat.le_refl _)); clear hb1)
  go_ret
  exact ⟨rfl, HB1.out⟩
end Go.Proofs.Ytbclnklejleobaa
