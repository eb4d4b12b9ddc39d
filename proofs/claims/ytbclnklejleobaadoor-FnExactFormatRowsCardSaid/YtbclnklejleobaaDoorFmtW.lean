/- The model's FormatInt writes an integer's decimal numeral ('Lib.itoa'), for every integer of 64 bits. -/
import Derived.Test.YtbclnklejleobaaDoorProg
import Derived.WalkKit
import Derived.ProofKit
import Derived.Lib.Hide
import Derived.OpenShut
import Derived.Outline
import Derived.LoopTactic
import Derived.Lib.ItoaLen
import Derived.Lib.ItoaMem
import Derived.Laws.BytesArg
namespace Go.Proofs.YtbclnklejleobaaDoor
open Go.RowKit
def digs (u : Nat) : List UInt8 := if u = 0 then [] else Lib.decDigits u
theorem digs_step (u : Nat) (h : 1 ≤ u) : digs u = digs (u / 10) ++ [UInt8.ofNat (48 + u % 10)] := by
  unfold digs
  rw [if_neg (by omega), Lib.decDigits]
  by_cases h1 : u < 10
  · rw [dif_pos h1, if_pos (by omega)]
    simp [Nat.mod_eq_of_lt h1]
  · rw [dif_neg h1, if_neg (by omega)]
theorem digs_pos (u : Nat) (h : 1 ≤ u) : digs u = Lib.decDigits u := by unfold digs; rw [if_neg (by omega)]
theorem digs_zero : digs 0 = [] := rfl
theorem one_data (c : Int) : (strOfNums [c]).data.toList = [UInt8.ofNat c.toNat] := rfl
theorem one_size (c : Int) : (strOfNums [c]).size = 1 := rfl
theorem cat_data (a b : ByteArray) : (a ++ b).data.toList = a.data.toList ++ b.data.toList := by rw [ByteArray.data_append, Array.toList_append]
theorem ba_eq {a : ByteArray} {l : List UInt8} (h : a.data.toList = l) : a = ⟨l.toArray⟩ := by
  cases a; simp only at h; subst h; simp
theorem ret_str {a : ByteArray} {l : List UInt8} (h : a.data.toList = l) : Ending.returned (.string a) = .returned (.string ⟨l.toArray⟩) := by rw [ba_eq h]
theorem size_list (a : ByteArray) : a.size = a.data.toList.length := by rw [Array.length_toList]; rfl
theorem conv1 (c : Int) (wr : World) (t : TypeId) : (convert 36 9 (.slice (some ⟨wr.heap.size, 0, none⟩) 1 1)).run Tryd.prog (wr.alloc (.cells #[.int .u8 c] t)) = .ok (.string (strOfNums [c])) (wr.alloc (.cells #[.int .u8 c] t)) :=
  run_convert_bytes_arg _ 36 5 Tryd.underlying36 Tryd.underlying5 _ _ _ _ [c] rfl (fun i hi => by obtain rfl : i = 0 := Nat.lt_one_iff.1 hi; simp) _ Tryd.underlying9
theorem fmt_bound {m u : Nat} {S : ByteArray} (hm : m ≤ 9223372036854775808) (h1 : 1 ≤ m) (h : Lib.decDigits m = digs u ++ S.data.toList) : S.size ≤ 20 := by
  have h2 := congrArg List.length h
  rw [Lib.decDigits_length, List.length_append, ← size_list] at h2
  have h3 := Lib.nDigits_le20 m (by omega)
  omega
theorem fmt_step {m u : Nat} {S : ByteArray} (hz : 1 ≤ u) (h : Lib.decDigits m = digs u ++ S.data.toList) (c : Int) (hc : c = 48 + (u : Int) % 10) : Lib.decDigits m = digs (u / 10) ++ (strOfNums [c] ++ S).data.toList := by
  rw [h, digs_step u hz, cat_data, one_data, List.append_assoc]
  have e : c.toNat = 48 + u % 10 := by omega
  rw [e]
set_option maxHeartbeats 400000 in
theorem specFormat_pos (m : Nat) (w : World) (h1 : 1 ≤ m) (h2 : m ≤ 9223372036854775807) : Calls Tryd.prog 10 #[.int .i64 m] w fun e w' => e = .returned (.string ⟨(Lib.decDigits m).toArray⟩) ∧ Below w.heap.size w w' := by
  have hcv := conv1
  have HE : Hid (Lib.decDigits m = digs m ++ (⟨#[]⟩ : ByteArray).data.toList) := Lib.hid (by rw [digs_pos m h1]; simp)
  go_enter Tryd.func10, Tryd.ntmps10
  go_wp2
  go_loopw [3, 4] (fun s x wr => ∃ (S : ByteArray) (u : Nat), s = .string S ∧ x = .int .i64 u ∧ u ≤ m ∧ Hid (Lib.decDigits m = digs u ++ S.data.toList) ∧ Below w.heap.size w wr) (fun _ x _ => (intOf x).toNat)
  case atStart => exact ⟨_, m, rfl, rfl, Nat.le_refl _, HE, Below.refl _ _⟩
  case round =>
    obtain ⟨S, u, rfl, rfl, hu, HR, hb⟩ := hrel
    have hS := fmt_bound (by omega) h1 HR.out
    by_cases hz : 1 ≤ u
    · have HN : Hid (Lib.decDigits m = digs (u / 10) ++ (strOfNums [48 + (u : Int) % 10] ++ S).data.toList) := Lib.hid (fmt_step hz HR.out _ rfl)
      have hs : (strOfNums [48 + (u : Int) % 10]).size + S.size ≤ 9223372036854775807 := by rw [one_size]; omega
      go_wp2
      go_roundw
      case rel => exact ⟨_, u / 10, rfl, by go_num, by omega, HN, hb.alloc (hb.size) _⟩
      case measure => simp [intOf]; omega
    · have hu0 : u = 0 := by omega
      subst hu0
      go_wp2
      go_ret
      exact ⟨ret_str (by rw [HR.out, digs_zero, List.nil_append]), hb⟩
set_option maxHeartbeats 400000 in
theorem specFormat_neg (m : Nat) (w : World) (h1 : 1 ≤ m) (h2 : m ≤ 9223372036854775808) : Calls Tryd.prog 10 #[.int .i64 (-(m : Int))] w fun e w' => e = .returned (.string ⟨(45 :: Lib.decDigits m).toArray⟩) ∧ Below w.heap.size w w' := by
  have hcv := conv1
  have HE : Hid (Lib.decDigits m = digs m ++ (⟨#[]⟩ : ByteArray).data.toList) := Lib.hid (by rw [digs_pos m h1]; simp)
  go_enter Tryd.func10, Tryd.ntmps10
  go_wp2
  go_loopw [3, 4] (fun s x wr => ∃ (S : ByteArray) (u : Nat), s = .string S ∧ x = .int .i64 (-(u : Int)) ∧ u ≤ m ∧ Hid (Lib.decDigits m = digs u ++ S.data.toList) ∧ Below w.heap.size w wr) (fun _ x _ => (intOf x).natAbs)
  case atStart => exact ⟨_, m, rfl, rfl, Nat.le_refl _, HE, Below.refl _ _⟩
  case round =>
    obtain ⟨S, u, rfl, rfl, hu, HR, hb⟩ := hrel
    have hS := fmt_bound (by omega) h1 HR.out
    by_cases hz : 1 ≤ u
    · have HN : Hid (Lib.decDigits m = digs (u / 10) ++ (strOfNums [48 + (u : Int) % 10] ++ S).data.toList) := Lib.hid (fmt_step hz HR.out _ rfl)
      have hs : (strOfNums [48 + (u : Int) % 10]).size + S.size ≤ 9223372036854775807 := by rw [one_size]; omega
      have e1 : (-(u : Int)).tdiv 10 = -((u : Int) / 10) := by rw [Int.neg_tdiv, Int.tdiv_eq_ediv_of_nonneg (by omega)]
      have e2 : (-(u : Int)).tmod 10 = -((u : Int) % 10) := by rw [Int.neg_tmod, Int.tmod_eq_emod_of_nonneg (by omega)]
      have hs0 : (strOfNums [48 + -((u : Int) % 10)]).size + S.size ≤ 9223372036854775807 := by rw [one_size]; omega
      go_wp2
      · go_roundw
        case rel => exact ⟨_, u / 10, rfl, by go_num, by omega, HN, hb.alloc (hb.size) _⟩
        case measure => simp [intOf]; omega
      · have h0 : (u : Int) % 10 ≤ 0 := by assumption
        have HN0 : Hid (Lib.decDigits m = digs (u / 10) ++ (strOfNums [48 + -((u : Int) % 10)] ++ S).data.toList) := Lib.hid (fmt_step hz HR.out _ (by omega))
        go_roundw
        case rel => exact ⟨_, u / 10, rfl, by go_num, by omega, HN0, hb.alloc (hb.size) _⟩
        case measure => simp [intOf]; omega
    · have hu0 : u = 0 := by omega
      subst hu0
      go_wp2
      go_ret
      exact ⟨ret_str (by rw [cat_data, HR.out, digs_zero, List.nil_append]; rfl), hb⟩
theorem specFormat_zero (w : World) : Calls Tryd.prog 10 #[.int .i64 0] w fun e w' => e = .returned (.string ⟨(Lib.itoa 0).toArray⟩) ∧ Below w.heap.size w w' := by
  go_enter Tryd.func10, Tryd.ntmps10
  go_wp2
  go_ret
  exact ⟨ret_str (by decide +kernel), Below.refl _ _⟩
theorem specFormat_any (n : Int) (w : World) (h1 : -9223372036854775808 ≤ n) (h2 : n ≤ 9223372036854775807) : Calls Tryd.prog 10 #[.int .i64 n] w fun e w' => e = .returned (.string ⟨(Lib.itoa n).toArray⟩) ∧ Below w.heap.size w w' := by
  rcases Int.lt_trichotomy n 0 with h | h | h
  · obtain ⟨m, rfl⟩ : ∃ m : Nat, n = -(m : Int) := ⟨n.natAbs, by omega⟩
    rw [Lib.itoa_neg m (by omega)]
    exact specFormat_neg m w (by omega) (by omega)
  · subst h; exact specFormat_zero w
  · obtain ⟨m, rfl⟩ : ∃ m : Nat, n = (m : Int) := ⟨n.toNat, by omega⟩
    rw [Lib.itoa_nonneg m]
    exact specFormat_pos m w (by omega) (by omega)
end Go.Proofs.YtbclnklejleobaaDoor
