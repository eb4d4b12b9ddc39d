/- Lists of integers written: the model's EncodeInts and the program's. -/
import Derived.Test.YtnhpkiddepfjoaaEncI
import Derived.Test.YtnhpkiddepfjoaaSlI
namespace Go.Proofs.Ytnhpkiddepfjoaa
open Go.RowKit
/-- The varints of a list, one behind the other. -/
def encAll (vs : List Int) : List Int := vs.foldl encTo []
theorem encAll_nil : encAll [] = [] := rfl
theorem encAll_next {vs : List Int} {k : Nat} (h : k < vs.length) : encAll (vs.take (k + 1)) = encTo (encAll (vs.take k)) (vs.getD k 0) := by
  have e : vs.take (k + 1) = vs.take k ++ [vs.getD k 0] := by
    rw [List.take_succ_eq_append_getElem h]
    simp [List.getD, h]
  rw [e, encAll, List.foldl_append]
  rfl
theorem encAll_len (vs : List Int) : (encAll vs).length ≤ 6 * vs.length := by
  have key : ∀ (l acc : List Int), (l.foldl encTo acc).length ≤ acc.length + 6 * l.length := by
    intro l
    induction l with
    | nil => intro acc; simp
    | cons x l ih =>
      intro acc
      have h1 := ih (encTo acc x)
      have h2 := encTo_len acc x
      simp only [List.foldl_cons, List.length_cons]
      omega
  have := key vs []
  simpa [encAll] using this
set_option maxHeartbeats 1600000 in
theorem specEncodeInts_any (W : World) (a : Option Addr) (len cap : Nat) (vs : List Int) (hl : len ≤ 67108864) (hs : Sees .i64 W a len vs) :
    Calls Try.prog 33 #[.slice a len cap] W (Made .u8 5 (encAll vs) W) := by
  have HS := Lib.hid hs
  have HL := Lib.hid hs.1
  clear hs
  go_enter Try.func33, Try.ntmps33
  go_wp2_with fail
  go_loopw [3, 4] (fun v i wr => ∃ (k : Nat) (kx : Int) (a' : Option Addr) (l' c' : Nat), kx = k ∧ k ≤ len ∧ i = .int .i64 kx ∧ v = .slice a' l' c' ∧ Own .u8 5 wr W.heap.size wr.heap.size a' l' c' (encAll (vs.take k)) ∧ Below W.heap.size W wr) (fun _ i _ => len - (intOf i).toNat)
  case atStart => exact ⟨0, 0, _, _, _, rfl, Nat.zero_le _, rfl, rfl, (own_nil _ _ _).wide (Nat.le_refl _) (by simp) (Nat.le_refl _), (Below.refl _ _).alloc (Nat.le_refl _) _⟩
  case round =>
    obtain ⟨k, kx, a', l', c', hkx, hk, rfl, rfl, ho, hb⟩ := hrel
    have HO := Lib.hid ho
    have HB := Lib.hid hb
    have HK := Lib.hid hkx
    have hsz := hb.size
    have hk0 : 0 ≤ kx := by omega
    have hk1 : kx ≤ len := by omega
    have hl' : l' ≤ 536870912 := by
      have := ho.1; have := encAll_len (vs.take k); rw [List.length_take] at this
      have := Nat.min_le_left k vs.length
      omega
    by_cases hlt : kx < len
    · rcases HS.out.2.2 with h0 | ⟨b, off, rfl, hbB, hcell⟩
      · omega
      · have hc := (hb.cell (p := ⟨b, off + kx.toNat, none⟩) hbB).trans (hcell kx.toNat (by omega))
        obtain ⟨x, hx⟩ : ∃ x, x = vs.getD kx.toNat 0 := ⟨_, rfl⟩
        rw [← hx] at hc
        have HN : Hid (encAll (vs.take (k + 1)) = encTo (encAll (vs.take k)) x) := Lib.hid (by rw [encAll_next (by rw [HL.out]; omega), hx]; congr 2; omega)
        clear hcell ho hb hx hkx hk
        go_wp2_with fail
        go_at_call 26
        refine (specAppend_any _ _ _ _ _ x (by omega) HO.out.sees).mono ?_
        rintro e w1 ⟨b1, l1, c1, rfl, ho1, hb1⟩
        have HO1 := Lib.hid ho1
        have HB1 := Lib.hid hb1
        clear ho1 hb1
        go_wp2_with fail
        go_roundw
        case rel =>
          refine ⟨k + 1, kx + 1, b1, l1, c1, by have := HK.out; omega, by have := HK.out; omega, rfl, rfl, ?_, below_up HB.out HB1.out (Nat.le_refl _)⟩
          rw [HN.out]
          exact HO1.out.wide hsz (Nat.le_refl _) (Nat.le_refl _)
        case measure => simp [intOf]; omega
    · have HE : Hid (encAll (vs.take k) = encAll vs) := Lib.hid (by rw [List.take_of_length_le]; rw [HL.out]; omega)
      clear ho hb hkx hk
      go_wp2_with fail
      go_ret
      exact ⟨_, _, _, rfl, HE.out ▸ HO.out, HB.out⟩
set_option maxHeartbeats 1600000 in
theorem encodeInts_any (W : World) (a : Option Addr) (len cap : Nat) (vs : List Int) (hl : len ≤ 67108864) (hs : Sees .i64 W a len vs) :
    Calls Try.prog 23 #[.slice a len cap] W (Made .u8 5 (encAll vs) W) := by
  have HS := Lib.hid hs
  have HL := Lib.hid hs.1
  clear hs
  go_enter Try.func23, Try.ntmps23
  go_wp2_with fail
  go_loopw [3, 9] (fun v i wr => ∃ (k : Nat) (kx : Int) (a' : Option Addr) (l' c' : Nat), kx = k ∧ k ≤ len ∧ i = .int .i64 kx ∧ v = .slice a' l' c' ∧ Own .u8 5 wr W.heap.size wr.heap.size a' l' c' (encAll (vs.take k)) ∧ Below W.heap.size W wr) (fun _ i _ => len - (intOf i).toNat)
  case atStart => exact ⟨0, 0, _, _, _, rfl, Nat.zero_le _, rfl, rfl, (own_nil _ _ _).wide (Nat.le_refl _) (by simp) (Nat.le_refl _), (Below.refl _ _).alloc (Nat.le_refl _) _⟩
  case round =>
    obtain ⟨k, kx, a', l', c', hkx, hk, rfl, rfl, ho, hb⟩ := hrel
    have HO := Lib.hid ho
    have HB := Lib.hid hb
    have HK := Lib.hid hkx
    have hsz := hb.size
    have hk0 : 0 ≤ kx := by omega
    have hk1 : kx ≤ len := by omega
    have hl' : l' ≤ 536870912 := by
      have := ho.1; have := encAll_len (vs.take k); rw [List.length_take] at this
      have := Nat.min_le_left k vs.length
      omega
    by_cases hlt : kx < len
    · rcases HS.out.2.2 with h0 | ⟨b, off, rfl, hbB, hcell⟩
      · omega
      · have hc := (hb.cell (p := ⟨b, off + kx.toNat, none⟩) hbB).trans (hcell kx.toNat (by omega))
        obtain ⟨x, hx⟩ : ∃ x, x = vs.getD kx.toNat 0 := ⟨_, rfl⟩
        rw [← hx] at hc
        have HN : Hid (encAll (vs.take (k + 1)) = encTo (encAll (vs.take k)) x) := Lib.hid (by rw [encAll_next (by rw [HL.out]; omega), hx]; congr 2; omega)
        clear hcell ho hb hx hkx hk
        go_wp2_with fail
        go_at_call 45
        refine (write_any _ _ _ _ _ _ _ x (by omega) hsz HO.out).mono ?_
        rintro e w1 ⟨b1, l1, c1, rfl, ho1, hb1⟩
        have HO1 := Lib.hid ho1
        have HB1 := Lib.hid hb1
        clear ho1 hb1
        go_wp2_with fail
        go_roundw
        case rel =>
          refine ⟨k + 1, kx + 1, b1, l1, c1, by have := HK.out; omega, by have := HK.out; omega, rfl, rfl, ?_, HB.out.trans HB1.out⟩
          rw [HN.out]
          exact HO1.out
        case measure => simp [intOf]; omega
    · have HE : Hid (encAll (vs.take k) = encAll vs) := Lib.hid (by rw [List.take_of_length_le]; rw [HL.out]; omega)
      clear ho hb hkx hk
      go_wp2_with fail
      go_ret
      exact ⟨_, _, _, rfl, HE.out ▸ HO.out, HB.out⟩
end Go.Proofs.Ytnhpkiddepfjoaa
