/- Whether a list holds a number twice, the program's. -/
import Derived.Test.YtbjjgcfmdlinaaaMapI
import Derived.Test.YtbjjgcfmdlinaaaSlA
import Derived.Test.YtbjjgcfmdlinaaaHas
namespace Go.Proofs.Ytbjjgcfmdlinaaa
open Go.RowKit
/-- No number stands ahead a second time. -/
theorem nodup_of {p : List Int} (h : ∀ k, k < p.length → hasB (p.take k) (p.getD k 0) = false) : p.Nodup := by
  refine List.pairwise_iff_getElem.2 fun i j hi hj hij e => ?_
  have h1 := h j hj
  have h2 : hasB (p.take j) (p.getD j 0) = true := hasB_yes (k := i) (by simp; omega) (by
    have e1 : p.getD j 0 = p[j] := by simp [List.getD, hj]
    rw [e1, ← e]
    simp [List.getD, hij, hi])
  rw [h1] at h2
  cases h2
theorem not_nodup {p : List Int} {k : Nat} (hk : k < p.length) (h : hasB (p.take k) (p.getD k 0) = true) : ¬ p.Nodup := fun hd => by
  have hm := of_decide_eq_true h
  obtain ⟨i, hi, e⟩ := List.getElem_of_mem hm
  simp only [List.length_take] at hi
  have h2 := List.pairwise_iff_getElem.1 hd i k (by omega) hk (by omega)
  apply h2
  simp only [List.getElem_take] at e
  rw [e]
  simp [List.getD, hk]
theorem zero_bool (w : World) : (zeroValue 4).run Try.prog w = .ok (.bool false) w := by kernel_rfl
theorem twice_end {p : List Int} {k : Nat} {F : Int → Option Value} (hF : ∀ x, F x = if x ∈ p.take k then some (.bool true) else none) (hk : k < p.length) :
    ∀ x, (fun y => if y = p.getD k 0 then some (Value.bool true) else F y) x = if x ∈ p.take (k + 1) then some (.bool true) else none := fun x => by
  have e : p.take (k + 1) = p.take k ++ [p.getD k 0] := by rw [List.take_add_one]; simp [List.getD, hk]
  simp only [e, List.mem_append, List.mem_singleton]
  by_cases h : x = p.getD k 0
  · simp [h]
  · simp only [h, if_false, or_false]; exact hF x
set_option maxRecDepth 20000 in
set_option maxHeartbeats 1600000 in
theorem twice_any (W : World) (a : Option Addr) (len cap : Nat) (p : List Int) (hl : len ≤ 1073741824) (hs : Sees .i64 W a len p) :
    Calls Try.prog 76 #[.slice a len cap] W fun e w' => e = .returned (.bool (!decide p.Nodup)) ∧ Below W.heap.size W w' := by
  have HL := Lib.hid hs.1
  have HS := Lib.hid hs
  clear hs
  obtain ⟨v, hv⟩ : ∃ v : Bool, v = !decide p.Nodup := ⟨_, rfl⟩
  rw [← hv]
  have HV := Lib.hid hv
  clear hv
  have hmm := @run_makeMap Try.prog
  go_enter Try.func76, Try.ntmps76
  go_wp2
  go_loopw [9, 5] (fun i _ wr => ∃ (k : Nat) (F : Int → Option Value), k ≤ len ∧ i = .int .i64 k ∧ Hid (∀ j, j < k → hasB (p.take j) (p.getD j 0) = false) ∧ Hid (∀ x, F x = if x ∈ p.take k then some (.bool true) else none) ∧ Hid (MapI wr W.heap.size k F) ∧ Below W.heap.size W wr) (fun i _ _ => len - (intOf i).toNat)
  case atStart => exact ⟨0, fun _ => none, Nat.zero_le _, rfl, Lib.hid (fun j hj => by omega), Lib.hid (fun x => by simp), Lib.hid (mapI_made W), (Below.refl _ _).alloc (Nat.le_refl _) _⟩
  case round =>
    obtain ⟨k, F, hk, rfl, HA, HF, HM, hb⟩ := hrel
    have HB := Lib.hid hb
    by_cases hlt : k < len
    · rcases HS.out.2.2 with h0 | ⟨b1, o1, rfl, hb1, hc1⟩
      · omega
      have hx := (hb.cell (p := ⟨b1, o1 + k, none⟩) hb1).trans (hc1 k hlt)
      have hkp : k < p.length := by rw [HL.out]; exact hlt
      have hwf := HS.out.2.1 _ (getD_mem hkp)
      obtain ⟨y, hy⟩ : ∃ y, p.getD k 0 = y := ⟨_, rfl⟩
      rw [hy] at hx hwf
      have HY := Lib.hid hy
      have hlook := HM.out.look (P := Try.prog) Try.underlying3 Try.underlying114 (zero_bool wr) hwf false
      have HWF := Lib.hid hwf
      clear hc1 hy hb hwf
      cases hin : hasB (p.take k) y
      · have hFy : F y = none := by rw [HF.out y, if_neg (of_decide_eq_false hin)]
        rw [hFy] at hlook
        simp only at hlook
        have HIN := Lib.hid hin
        have HFY := Lib.hid hFy
        clear hin hFy
        go_wp2_with (at_mapUpdate; refine wp_mapPut rfl _ _ _ (.inl rfl) HM.out Try.underlying3 Try.underlying114 rfl rfl HWF.out HFY.out rfl ?_; intro w1 hM1 hG1; have HM1 := Lib.hid hM1; have HB1 := Lib.hid (HB.out.grown hG1 HB.out.size (fun k e => by cases e; exact Nat.le_refl _)); clear hM1 hG1)
        go_roundw
        case rel => exact ⟨k + 1, _, by omega, by go_num, Lib.hid (next_all HA.out (by rw [HY.out]; exact HIN.out)), Lib.hid (twice_end HF.out hkp), Lib.hid (by rw [HY.out]; exact HM1.out), HB1.out⟩
        case measure => simp [intOf]; omega
      · have hFy : F y = some (.bool true) := by rw [HF.out y, if_pos (of_decide_eq_true hin)]
        rw [hFy] at hlook
        simp only at hlook
        have HE : Hid (v = true) := Lib.hid (by rw [HV.out, decide_eq_false (not_nodup hkp (by rw [HY.out]; exact hin))]; rfl)
        clear hin hFy
        go_wp2
        go_ret
        exact ⟨ret_bool HE.out.symm, HB.out⟩
    · obtain rfl : k = len := by omega
      have HE : Hid (v = false) := Lib.hid (by rw [HV.out, decide_eq_true (nodup_of (fun j hj => HA.out j (by rw [HL.out] at hj; exact hj)))]; rfl)
      clear hb
      go_wp2
      go_ret
      exact ⟨ret_bool HE.out.symm, HB.out⟩
end Go.Proofs.Ytbjjgcfmdlinaaa
