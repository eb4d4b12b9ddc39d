/- What the laws do to slices of slices of integers: measure, copy, compare, mark, look for the marks. -/
import Derived.Test.YtbclnklejleobaaDoorSlM
import Derived.Deep.RegionHeld3
namespace Go.Proofs.YtbclnklejleobaaDoor
open Go.RowKit
/-- How many integers the first rows have. -/
def tot (ms : List (List Int)) : Nat → Nat
  | 0 => 0
  | r + 1 => tot ms r + (row ms r).length
theorem tot_mono (ms : List (List Int)) {a b : Nat} (h : a ≤ b) : tot ms a ≤ tot ms b := by
  induction b with
  | zero => rw [Nat.le_zero.1 h]; exact Nat.le_refl _
  | succ b ih =>
    rcases Nat.lt_or_eq_of_le h with h1 | rfl
    · exact Nat.le_trans (ih (by omega)) (Nat.le_add_right _ _)
    · exact Nat.le_refl _
def SmallM (ms : List (List Int)) : Prop := ms.length + tot ms ms.length ≤ 1048576
theorem SmallM.row {ms : List (List Int)} (h : SmallM ms) {r : Nat} (hr : r < ms.length) : tot ms r + (row ms r).length ≤ 1048576 := by
  have := tot_mono ms (show r + 1 ≤ ms.length by omega)
  unfold SmallM at h
  simp only [tot] at this
  omega
/-- What is left of 2^20. -/
def szV (ms : List (List Int)) : Int := if ms.length + tot ms ms.length ≤ 1048576 then 1048576 - (ms.length : Int) - (tot ms ms.length : Int) else -1
theorem szV_small {ms : List (List Int)} (h : SmallM ms) : szV ms = 1048576 - (ms.length : Int) - (tot ms ms.length : Int) := if_pos h
theorem szV_big {ms : List (List Int)} (h : ¬ SmallM ms) : szV ms = -1 := if_neg h
theorem ret_intV {k : IntKind} {a b : Int} (h : a = b) : Ending.returned (.int k a) = .returned (.int k b) := by rw [h]
theorem szI_any (W : World) (a : Option Addr) (len cap : Nat) (left v : Int) (hl : len ≤ maxLen) (h0 : 0 ≤ left) (h1 : left ≤ 1048576) (hv : v = if left < (len : Int) then -1 else left - (len : Int)) :
    Calls Tryd.prog 9 #[.slice a len cap, .int .i64 left] W fun e w' => e = .returned (.int .i64 v) ∧ W = w' := by
  unfold maxLen at hl
  by_cases h : left < (len : Int)
  · rw [if_pos h] at hv
    subst hv
    go_enter Tryd.func9, Tryd.ntmps9
    go_wp2
    go_ret
    exact ⟨rfl, rfl⟩
  · rw [if_neg h] at hv
    have HV := Lib.hid hv
    clear hv
    have h2 : ¬ left - (len : Int) < 0 := by omega
    go_enter Tryd.func9, Tryd.ntmps9
    go_wp2
    go_ret
    exact ⟨ret_intV HV.out.symm, rfl⟩
set_option maxHeartbeats 400000 in
theorem szM_any (W : World) (a : Option Addr) (len cap : Nat) (ms : List (List Int)) (v : Int) (hl : len ≤ maxLen) (hs : SeesM W a len ms) (hv : v = szV ms) :
    Calls Tryd.prog 4 #[.slice a len cap, .int .i64 1048576] W fun e w' => e = .returned (.int .i64 v) ∧ Below W.heap.size W w' := by
  have HS := Lib.hid hs
  have HL := Lib.hid hs.1
  have HV := Lib.hid hv
  clear hs hv
  unfold maxLen at hl
  by_cases h0 : (1048576 : Int) - (len : Int) < 0
  · have hn : ¬ SmallM ms := by unfold SmallM; rw [HL.out]; omega
    have HE := Lib.hid (HV.out.trans (szV_big hn))
    go_enter Tryd.func4, Tryd.ntmps4
    go_wp2
    go_ret
    exact ⟨ret_intV HE.out.symm, Below.refl _ _⟩
  · go_enter Tryd.func4, Tryd.ntmps4
    go_wp2
    go_loopw [1, 5] (fun q i wr => ∃ (k : Nat) (x : Int), k ≤ len ∧ i = .int .i64 k ∧ q = .int .i64 x ∧ x = 1048576 - (len : Int) - (tot ms k : Int) ∧ 0 ≤ x ∧ Below W.heap.size W wr) (fun _ i _ => len - (intOf i).toNat)
    case atStart => exact ⟨0, _, Nat.zero_le _, rfl, rfl, by simp [tot], by omega, Below.refl _ _⟩
    case round =>
      obtain ⟨k, x, hk, rfl, rfl, hx, hx0, hb⟩ := hrel
      have HB := Lib.hid hb
      have HX := Lib.hid hx
      have hx1 : x ≤ 1048576 := by omega
      clear hx
      by_cases hlt : k < len
      · obtain ⟨b, off, ar, cr, rfl, hbl, hc, hle, hcm, hsr⟩ := HS.out.2 k hlt
        have hcw := (hb.cell (p := ⟨b, off + k, none⟩) hbl).trans hc
        obtain ⟨L, hL⟩ : ∃ L, L = (row ms k).length := ⟨_, rfl⟩
        rw [← hL] at hcw hle
        have HLr := Lib.hid hL
        have hLm : L ≤ maxLen := Nat.le_trans hle hcm
        clear hc hb hsr hL hle hcm
        by_cases hneg : x < (L : Int)
        · have hn : ¬ SmallM ms := fun hsm => by
            have := hsm.row (r := k) (by rw [HL.out]; exact hlt)
            have h2 := tot_mono ms (show k + 1 ≤ ms.length by rw [HL.out]; omega)
            unfold SmallM at hsm
            simp only [tot] at h2
            have h3 := HLr.out
            have h4 := HX.out
            have h5 := HL.out
            omega
          have HE := Lib.hid (HV.out.trans (szV_big hn))
          clear hn
          go_wp2_with (go_at_call 9; refine (szI_any _ _ L _ x (-1) hLm hx0 hx1 (by rw [if_pos hneg])).mono ?_; rintro e w2 ⟨rfl, rfl⟩)
          go_ret
          exact ⟨ret_intV HE.out.symm, HB.out⟩
        · obtain ⟨y, hy⟩ : ∃ y, y = x - (L : Int) := ⟨_, rfl⟩
          have hy0 : ¬ y < 0 := by omega
          have HY := Lib.hid hy
          clear hy
          go_wp2_with (go_at_call 9; refine (szI_any _ _ L _ x y hLm hx0 hx1 (by rw [if_neg hneg]; exact HY.out)).mono ?_; rintro e w2 ⟨rfl, rfl⟩)
          go_roundw
          case rel => exact ⟨k + 1, y, by omega, by go_num, rfl, by have h3 := HLr.out; have h4 := HX.out; have h5 := HY.out; simp only [tot]; omega, by omega, HB.out⟩
          case measure => simp [intOf]; omega
      · obtain rfl : k = len := by omega
        have hsm : SmallM ms := by
          unfold SmallM
          have h4 := HX.out
          rw [HL.out]
          omega
        have HE : Hid (v = x) := Lib.hid (by rw [HV.out, szV_small hsm, HL.out, HX.out])
        clear hb hsm
        go_wp2
        go_ret
        exact ⟨ret_intV HE.out.symm, HB.out⟩
/-! ### Copies -/
/-- The first k rows, and nothing behind. -/
def upTo (ms : List (List Int)) (k : Nat) : List (List Int) := ms.take k ++ List.replicate (ms.length - k) []
theorem upTo_len (ms : List (List Int)) {k : Nat} (h : k ≤ ms.length) : (upTo ms k).length = ms.length := by simp [upTo]; omega
theorem upTo_zero (ms : List (List Int)) : upTo ms 0 = List.replicate ms.length [] := by simp [upTo]
theorem upTo_all (ms : List (List Int)) : upTo ms ms.length = ms := by simp [upTo]
theorem upTo_set (ms : List (List Int)) {k : Nat} (h : k < ms.length) : (upTo ms k).set k (row ms k) = upTo ms (k + 1) := by
  apply List.ext_getElem?
  intro i
  unfold upTo row
  rw [List.getElem?_set]
  by_cases hik : k = i
  · subst hik
    rw [if_pos rfl, if_pos (by simp; omega), List.getElem?_append_left (by simp; omega), List.getElem?_take, if_pos (by omega)]
    simp [List.getD, h]
  · rw [if_neg hik]
    rcases Nat.lt_or_ge i k with h1 | h1
    · rw [List.getElem?_append_left (by simp; omega), List.getElem?_append_left (by simp; omega), List.getElem?_take, List.getElem?_take, if_pos h1, if_pos (by omega)]
    · rw [List.getElem?_append_right (by simp; omega), List.getElem?_append_right (by simp; omega), List.getElem?_replicate, List.getElem?_replicate]
      simp only [List.length_take]
      congr 1
      rw [eq_iff_iff]
      omega
theorem row_repl (n r : Nat) : row (List.replicate n []) r = [] := by
  unfold row List.getD
  rw [List.getElem?_replicate]
  split <;> rfl
theorem info_row : (Tryd.prog.info? 29).map (fun i => (i.zero, i.size, i.bytes)) = some (some (.slice none 0 0), 1, 24) := by kernel_rfl
theorem made_rows (w : World) (lo len g : Nat) (hlo : lo ≤ g) (hg : g < w.heap.size) (h : w.ownsRow lo 29 1 (.slice (some ⟨g, 0, none⟩) len len) len (madeCells (Value.slice none 0 0).cells (len * 1)).toList) : OwnM w lo w.heap.size (some ⟨g, 0, none⟩) len len (List.replicate len []) := by
  refine ⟨by simp, Nat.le_refl _, fun x hx => by cases hx; exact ⟨hlo, hg⟩, fun _ => none, fun _ => 0, ?_, fun r hr => ⟨?_, fun x hx => by cases hx⟩⟩
  · have : (Value.slice none 0 0).cells = #[Value.slice none 0 0] := rfl
    rw [this, toList_madeCells_one, Nat.mul_one] at h
    have e : heads (fun _ => none) (fun _ => 0) (List.replicate len []) = List.replicate len (.slice none 0 0) := by
      apply List.ext_getElem?
      intro i
      by_cases hi : i < len
      · rw [heads_at (by simpa using hi), row_repl, List.getElem?_replicate, if_pos hi]
        rfl
      · rw [List.getElem?_eq_none (by rw [heads_len]; simp; omega), List.getElem?_eq_none (by simp; omega)]
    rw [e]
    exact h
  · rw [row_repl]
    exact own_none0 _ _ _ _ (Nat.le_refl _)
/-- What a call leaves that makes a slice of slices. -/
def MadeM (ms : List (List Int)) (w : World) (E : Ending) (w' : World) : Prop :=
  ∃ a len cap, E = .returned (.slice a len cap) ∧ OwnM w' w.heap.size w'.heap.size a len cap ms ∧ Below w.heap.size w w'
end Go.Proofs.YtbclnklejleobaaDoor
