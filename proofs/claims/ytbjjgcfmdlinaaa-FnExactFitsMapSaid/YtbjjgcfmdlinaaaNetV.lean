/- Networks in memory: what is seen of one, and the searches for a link. -/
import Derived.Test.YtbjjgcfmdlinaaaSlL
import Derived.Test.YtbjjgcfmdlinaaaIntW
import Derived.Test.YtbjjgcfmdlinaaaNetF
import Derived.Test.YtbjjgcfmdlinaaaDraw
namespace Go.Proofs.Ytbjjgcfmdlinaaa
open Go.RowKit
theorem next_all {P : Nat → Prop} {k : Nat} (h : ∀ j, j < k → P j) (h1 : P k) : ∀ j, j < k + 1 → P j := fun j hj => by
  rcases Nat.lt_or_eq_of_le (Nat.lt_succ_iff.1 hj) with h2 | h2
  · exact h j h2
  · rw [h2]; exact h1
/-- The link joins x and y. -/
def joins (x y : Int) (l : Int × Int) : Bool := decide ((l.1 = x ∧ l.2 = y) ∨ (l.1 = y ∧ l.2 = x))
/-- The first link that joins x and y, or -1. -/
def lk (ls : List (Int × Int)) (x y : Int) : Int := if ls.findIdx (joins x y) < ls.length then (ls.findIdx (joins x y) : Int) else -1
theorem lk_at {ls : List (Int × Int)} {x y : Int} {k : Nat} (hk : k < ls.length) (h : ∀ j, j < k → joins x y (ls.getD j (0, 0)) = false) (h1 : joins x y (ls.getD k (0, 0)) = true) : lk ls x y = (k : Int) := by
  have e : ls.findIdx (joins x y) = k := (List.findIdx_eq hk).2 ⟨by simpa [List.getD, hk] using h1, fun j hj => by have := h j hj; simpa [List.getD, Nat.lt_trans hj hk] using this⟩
  unfold lk
  rw [e, if_pos hk]
theorem lk_none {ls : List (Int × Int)} {x y : Int} (h : ∀ j, j < ls.length → joins x y (ls.getD j (0, 0)) = false) : lk ls x y = -1 := by
  have e : ls.findIdx (joins x y) = ls.length := List.findIdx_eq_length.2 fun l hl => by
    obtain ⟨j, hj, rfl⟩ := List.getElem_of_mem hl
    have := h j hj
    simpa [List.getD, hj] using this
  unfold lk
  rw [e, if_neg (Nat.lt_irrefl _)]
theorem lk_cases (ls : List (Int × Int)) (x y : Int) : (lk ls x y = -1 ∧ ∀ j, j < ls.length → joins x y (ls.getD j (0, 0)) = false) ∨ ∃ k : Nat, lk ls x y = (k : Int) ∧ k < ls.length ∧ joins x y (ls.getD k (0, 0)) = true ∧ ∀ j, j < k → joins x y (ls.getD j (0, 0)) = false := by
  by_cases hex : ∃ k, k < ls.length ∧ joins x y (ls.getD k (0, 0)) = true
  · have : ∃ k, (k < ls.length ∧ joins x y (ls.getD k (0, 0)) = true) ∧ ∀ j, j < k → joins x y (ls.getD j (0, 0)) = false := by
      obtain ⟨k, hk⟩ := hex
      induction k using Nat.strongRecOn with
      | _ k ih =>
        by_cases h : ∃ j, j < k ∧ joins x y (ls.getD j (0, 0)) = true
        · obtain ⟨j, hj, hjj⟩ := h
          exact ih j hj ⟨by omega, hjj⟩
        · exact ⟨k, hk, fun j hj => by
            cases hb : joins x y (ls.getD j (0, 0))
            · rfl
            · exact absurd ⟨j, hj, hb⟩ h⟩
    obtain ⟨k, ⟨h1, h2⟩, h3⟩ := this
    exact .inr ⟨k, lk_at h1 h3 h2, h1, h2, h3⟩
  · have h0 : ∀ j, j < ls.length → joins x y (ls.getD j (0, 0)) = false := fun j hj => by
      cases hb : joins x y (ls.getD j (0, 0))
      · rfl
      · exact absurd ⟨j, hj, hb⟩ hex
    exact .inl ⟨lk_none h0, h0⟩
/-- Block B holds a network's number of nodes and its slice of links. -/
structure NetAt (w : World) (B : Nat) (n : Int) (a : Option Addr) (len cap : Nat) : Prop where
  c0 : w.cell? ⟨B, 0, none⟩ = some (.int .i64 n)
  c1 : w.cell? ⟨B, 1, none⟩ = some (.slice a len cap)
  lt : B < w.heap.size
theorem net_new (w : World) (n : Int) (a : Option Addr) (len cap : Nat) (t : TypeId) : NetAt (w.alloc (.cells #[.int .i64 n, .slice a len cap] t)) w.heap.size n a len cap :=
  ⟨by go_simp, by go_simp, by simp⟩
theorem NetAt.below {w w' : World} {B : Nat} {n : Int} {a : Option Addr} {len cap : Nat} (h : NetAt w B n a len cap) (hb : Below w.heap.size w w') : NetAt w' B n a len cap :=
  ⟨(hb.cell (p := ⟨B, 0, none⟩) h.lt).trans h.c0, (hb.cell (p := ⟨B, 1, none⟩) h.lt).trans h.c1, Nat.lt_of_lt_of_le h.lt hb.size⟩
theorem NetAt.up {w w' : World} {C B : Nat} {n : Int} {a : Option Addr} {len cap : Nat} (h : NetAt w B n a len cap) (hb : Below C w w') (hC : B < C) : NetAt w' B n a len cap :=
  ⟨(hb.cell (p := ⟨B, 0, none⟩) hC).trans h.c0, (hb.cell (p := ⟨B, 1, none⟩) hC).trans h.c1, Nat.lt_of_lt_of_le h.lt hb.size⟩
theorem below_new (W : World) (o : Obj) : Below W.heap.size W (W.alloc o) := (Below.refl _ _).alloc (Nat.le_refl _) _
/-- The cells of a link that is seen. -/
theorem SeesL.spot {w : World} {a : Option Addr} {len : Nat} {ls : List (Int × Int)} (h : SeesL w a len ls) {k : Nat} (hk : k < len) :
    ∃ b off, a = some ⟨b, off, none⟩ ∧ b < w.heap.size ∧ w.cell? ⟨b, off + k * 2, none⟩ = some (.int .i64 (ls.getD k (0, 0)).1) ∧ w.cell? ⟨b, off + k * 2 + 1, none⟩ = some (.int .i64 (ls.getD k (0, 0)).2) ∧
      IsI64 (ls.getD k (0, 0)).1 ∧ IsI64 (ls.getD k (0, 0)).2 := by
  rcases h.2.2 with h0 | ⟨b, off, ha, hb, hc⟩
  · omega
  · have hf := h.2.1 _ (getL_mem (l := ls) (j := k) (by rw [h.1]; exact hk))
    exact ⟨b, off, ha, hb, (hc k hk).1, (hc k hk).2, bounds_i64 hf.1, bounds_i64 hf.2⟩
set_option maxRecDepth 20000 in
set_option maxHeartbeats 1600000 in
theorem specLk_any (W : World) (n : Int) (a : Option Addr) (len cap : Nat) (ls : List (Int × Int)) (x y : Int) (hl : len ≤ 1073741824) (hs : SeesL W a len ls) :
    Calls Try.prog 60 #[.agg #[.int .i64 n, .slice a len cap], .int .i64 x, .int .i64 y] W fun e w' => e = .returned (.int .i64 (lk ls x y)) ∧ Below W.heap.size W w' := by
  have HL := Lib.hid hs.1
  obtain ⟨V, hV⟩ : ∃ V, V = W.alloc (.cells #[.int .i64 n, .slice a len cap] 26) := ⟨_, rfl⟩
  have HBV : Hid (Below W.heap.size W V) := Lib.hid (by rw [hV]; exact below_new _ _)
  have HN := Lib.hid (show NetAt V W.heap.size n a len cap by rw [hV]; exact net_new _ _ _ _ _ _)
  have HS := Lib.hid (hs.below HBV.out)
  clear hs
  obtain ⟨v, hv⟩ : ∃ v : Int, v = lk ls x y := ⟨_, rfl⟩
  rw [← hv]
  have HV := Lib.hid hv
  clear hv
  go_enter Try.func60, Try.ntmps60
  go_wp2_with fail
  rw [← hV]
  clear hV
  have c0 := HN.out.c0
  have c1 := HN.out.c1
  go_wp2
  go_loopw [7] (fun i wr => ∃ k : Nat, k ≤ len ∧ i = .int .i64 k ∧ Hid (∀ j, j < k → joins x y (ls.getD j (0, 0)) = false) ∧ wr = V) (fun i _ => len - (intOf i).toNat)
  case atStart => exact ⟨0, Nat.zero_le _, rfl, Lib.hid (fun j hj => by omega), rfl⟩
  case round =>
    obtain ⟨k, hk, rfl, HA, rfl⟩ := hrel
    by_cases hlt : k < len
    · obtain ⟨b, o, rfl, hb, hx0, hx1, hi0, hi1⟩ := HS.out.spot hlt
      obtain ⟨s, t, hcd⟩ : ∃ s t, ls.getD k (0, 0) = (s, t) := ⟨_, _, rfl⟩
      rw [hcd] at hx0 hx1
      have HCD := Lib.hid hcd
      clear hcd hi0 hi1
      by_cases hj : joins x y (s, t) = true
      · have HE : Hid (v = k) := Lib.hid (by rw [HV.out]; exact lk_at (by rw [HL.out]; exact hlt) HA.out (by rw [HCD.out]; exact hj))
        unfold joins at hj
        have hj := of_decide_eq_true hj
        simp only at hj
        have fin : Ending.returned (Value.int .i64 (k : Int)) = .returned (.int .i64 v) := by rw [HE.out]
        by_cases h1 : s = x ∧ t = y
        · obtain ⟨rfl, rfl⟩ := h1
          clear hj
          go_wp2
          go_ret
          exact ⟨fin, HBV.out⟩
        · obtain ⟨rfl, rfl⟩ : s = y ∧ t = x := by rcases hj with h | h; exact absurd h h1; exact h
          have h2 : ¬ s = t := fun e => h1 ⟨e, e.symm⟩
          clear hj h1
          go_wp2
          go_ret
          exact ⟨fin, HBV.out⟩
      · have HJ : Hid (joins x y (ls.getD k (0, 0)) = false) := Lib.hid (by rw [HCD.out]; simpa using hj)
        unfold joins at hj
        have hj : ¬ ((s = x ∧ t = y) ∨ (s = y ∧ t = x)) := fun h => hj (decide_eq_true h)
        by_cases h1 : s = x
        · subst h1
          have h2 : ¬ t = y := fun e => hj (.inl ⟨rfl, e⟩)
          by_cases h3 : s = y
          · subst h3
            clear hj
            go_wp2
            go_roundw
            case rel => exact ⟨k + 1, by omega, by go_num, Lib.hid (next_all HA.out HJ.out), trivial⟩
            case measure => simp [intOf]; omega
          · clear hj
            go_wp2
            go_roundw
            case rel => exact ⟨k + 1, by omega, by go_num, Lib.hid (next_all HA.out HJ.out), trivial⟩
            case measure => simp [intOf]; omega
        · by_cases h3 : s = y
          · subst h3
            have h2 : ¬ t = x := fun e => hj (.inr ⟨rfl, e⟩)
            clear hj
            go_wp2
            go_roundw
            case rel => exact ⟨k + 1, by omega, by go_num, Lib.hid (next_all HA.out HJ.out), trivial⟩
            case measure => simp [intOf]; omega
          · clear hj
            go_wp2
            go_roundw
            case rel => exact ⟨k + 1, by omega, by go_num, Lib.hid (next_all HA.out HJ.out), trivial⟩
            case measure => simp [intOf]; omega
    · obtain rfl : k = len := by omega
      have HE : Hid (v = -1) := Lib.hid (by rw [HV.out]; exact lk_none (fun j hj => HA.out j (by rw [HL.out] at hj; exact hj)))
      go_wp2
      go_ret
      exact ⟨ret_int HE.out.symm, HBV.out⟩
end Go.Proofs.Ytbjjgcfmdlinaaa
