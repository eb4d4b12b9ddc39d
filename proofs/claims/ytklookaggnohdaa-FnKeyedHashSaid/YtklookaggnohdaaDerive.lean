/- A key derived from a string: the model's function and the program's. -/
import Derived.Test.YtklookaggnohdaaKeyed
import Derived.Test.YtklookaggnohdaaBytesI
import Derived.Test.YtklookaggnohdaaMinW
import Derived.Lib.ConvBytes
namespace Go.Proofs.Ytklookaggnohdaa
open Go.RowKit
/-- The bytes of a string. -/
def nums (s : ByteArray) : List Int := s.data.toList.map fun b => (b.toNat : Int)
theorem nums_len (s : ByteArray) : (nums s).length = s.size := by simp [nums]
theorem nums_wf (s : ByteArray) : ∀ n ∈ nums s, (Lit.int .u8 n).wf = true := by
  intro n hn
  obtain ⟨b, _, rfl⟩ := List.mem_map.1 hn
  have := b.toNat_lt
  exact WalkArith.wf_u8 (by omega)
theorem below_bytes (w : World) (e : TypeId) (s : ByteArray) : Below w.heap.size w (Lib.bytesWorld w e s) := by
  refine ⟨rfl, rfl, rfl, ?_, fun k hk => Lib.bytesWorld_at_old w e s k hk⟩
  rw [Lib.bytesWorld_size]; omega
theorem sees_bytes (w : World) (e : TypeId) (s : ByteArray) : Sees .u8 (Lib.bytesWorld w e s) (some ⟨w.heap.size, 0, none⟩) s.size (nums s) := by
  refine ⟨nums_len s, nums_wf s, .inr ⟨w.heap.size, 0, rfl, by rw [Lib.bytesWorld_size]; omega, fun j hj => ?_⟩⟩
  rw [Nat.zero_add, Lib.bytesWorld_cell w e s j hj]
  have h : j < s.data.size := hj
  simp only [nums, List.getD, List.getElem?_map, Array.getElem?_toList]
  rw [Array.getElem?_eq_getElem h]
  rfl
/-- What a conversion of a string to bytes leaves. -/
theorem conv_bytes (w : World) (s : ByteArray) : ∃ (c : Nat) (w1 : World), (convert 9 22 (.string s)).run Try.prog w = .ok (.slice (some ⟨w.heap.size, 0, none⟩) s.size c) w1 ∧ Sees .u8 w1 (some ⟨w.heap.size, 0, none⟩) s.size (nums s) ∧ Below w.heap.size w w1 :=
  ⟨_, _, Lib.run_convert_string_bytes w 9 22 5 s Try.underlying9 Try.underlying22 Try.underlying5, sees_bytes _ _ _, below_bytes _ _ _⟩
def derV (key : Int) (s : ByteArray) : Int := if keyV key (bti (nums s)) = 0 then 1 else keyV key (bti (nums s))
theorem derV_max (key : Int) (s : ByteArray) : maxV 1 (keyV key (bti (nums s))) = derV key s := by
  have := keyV_bd key (bti (nums s))
  unfold maxV derV
  split <;> split <;> omega
theorem derV_bd (key : Int) (s : ByteArray) : 1 ≤ derV key s ∧ derV key s ≤ 2147483646 := by
  have := keyV_bd key (bti (nums s))
  unfold derV
  split <;> omega
set_option maxHeartbeats 800000 in
theorem specDerive_any (W : World) (key : Int) (s : ByteArray) (hk0 : -9223372036854775808 ≤ key) (hk1 : key ≤ 9223372036854775807) (hl : s.size ≤ 1048576) :
    Calls Try.prog 41 #[.int .i64 key, .string s] W fun e w' => e = .returned (.int .i64 (derV key s)) ∧ Below W.heap.size W w' := by
  obtain ⟨c, w1, hcv, hs1, hb1⟩ := conv_bytes W s
  have HS1 := Lib.hid hs1
  have HB1 := Lib.hid hb1
  clear hs1 hb1
  go_enter Try.func41, Try.ntmps41
  go_wp2_with fail
  go_at_call 31
  refine (specBti_any _ _ _ _ _ (by omega) HS1.out).mono ?_
  rintro e w2 ⟨b2, l2, c2, rfl, ho2, hb2⟩
  have hl2 : l2 ≤ 1048577 := by have h := ho2.1; rw [bti, List.length_cons, nums_len] at h; omega
  have HO2 := Lib.hid ho2
  have HB2 := Lib.hid (below_up HB1.out hb2 (Nat.le_refl _))
  clear ho2 hb2 hcv
  go_wp2_with fail
  go_at_call 29
  refine (specKeyed_any _ _ _ _ _ _ hk0 hk1 (by omega) HO2.out.sees).mono ?_
  rintro e w3 ⟨rfl, hb3⟩
  have HB3 := Lib.hid (below_up HB2.out hb3 (Nat.le_refl _))
  clear hb3
  go_wp2_with (go_at_call 56; refine (specMax_any _ _ _).mono ?_; rintro e w' ⟨rfl, rfl⟩)
  go_ret
  exact ⟨ret_int (derV_max _ _), HB3.out⟩
set_option maxHeartbeats 800000 in
theorem derive_any (W : World) (key : Int) (s : ByteArray) (hk0 : -9223372036854775808 ≤ key) (hk1 : key ≤ 9223372036854775807) (hl : s.size ≤ 1048576) :
    Calls Try.prog 25 #[.int .i64 key, .string s] W fun e w' => e = .returned (.int .i64 (derV key s)) ∧ Below W.heap.size W w' := by
  obtain ⟨c, w1, hcv, hs1, hb1⟩ := conv_bytes W s
  have HS1 := Lib.hid hs1
  have HB1 := Lib.hid hb1
  clear hs1 hb1
  go_enter Try.func25, Try.ntmps25
  go_wp2_with fail
  go_at_call 33
  refine (bti_any _ _ _ _ _ (by omega) HS1.out).mono ?_
  rintro e w2 ⟨b2, l2, c2, rfl, ho2, hb2⟩
  have hl2 : l2 ≤ 1048577 := by have h := ho2.1; rw [bti, List.length_cons, nums_len] at h; omega
  have HO2 := Lib.hid ho2
  have HB2 := Lib.hid (below_up HB1.out hb2 (Nat.le_refl _))
  clear ho2 hb2 hcv
  go_wp2_with fail
  go_at_call 19
  refine (keyed_any _ _ _ _ _ _ hk0 hk1 (by omega) HO2.out.sees).mono ?_
  rintro e w3 ⟨rfl, hb3⟩
  have HB3 := Lib.hid (below_up HB2.out hb3 (Nat.le_refl _))
  have HD : Hid (derV key s = if keyV key (bti (nums s)) = 0 then 1 else keyV key (bti (nums s))) := Lib.hid rfl
  obtain ⟨x, hx⟩ : ∃ x, x = keyV key (bti (nums s)) := ⟨_, rfl⟩
  rw [← hx] at HD ⊢
  clear hb3 hx
  by_cases h0 : x = 0
  · subst h0
    go_wp2
    go_ret
    exact ⟨ret_int (by rw [HD.out]; rfl), HB3.out⟩
  · have HN := Lib.hid h0
    go_wp2
    go_ret
    exact ⟨ret_int (by rw [HD.out, if_neg HN.out]), HB3.out⟩
end Go.Proofs.Ytklookaggnohdaa
