/- One probe: its marks, and the look for them. -/
import Derived.Test.YtldeplmiggbonaaSlQn
namespace Go.Proofs.Ytldeplmiggbonaa
open Go.RowKit
set_option maxHeartbeats 400000 in
theorem markPrb_any (W : World) (lo hi : Nat) (x y : Int) (a : Option Addr) (len cap : Nat) (zs : List Int) (m : Int) (hl : len ≤ 1073741824) (hm0 : 0 ≤ m) (hm1 : m ≤ 4611686018427387904) (ho : Own .i64 3 W lo hi a len cap zs) :
    Calls Try.prog 15 #[.agg #[.int .i64 x, .int .i64 y, .slice a len cap], .int .i64 m] W fun e w' => e = .returned (.int .i64 (m + len)) ∧ Own .i64 3 w' lo hi a len cap (marksI m len) ∧ Moved lo hi W w' := by
  obtain ⟨V, hV⟩ : ∃ V, V = W.alloc (.cells #[.int .i64 x, .int .i64 y, .slice a len cap] 28) := ⟨_, rfl⟩
  have hb0 : Below W.heap.size W V := by
    rw [hV]
    exact (Below.refl _ _).alloc (Nat.le_refl _) _
  have k1 : V.cell? ⟨W.heap.size, 2, none⟩ = some (.slice a len cap) := by rw [hV]; go_simp
  have HO := Lib.hid (ho.moved (Moved.of_below (lo := hi) (hi := hi) hb0) (.inl (Nat.le_refl _)))
  have HM := Lib.hid (Moved.of_below (lo := lo) (hi := hi) hb0)
  clear hb0 ho
  go_enter Try.func15, Try.ntmps15
  go_wp2_with fail
  rw [← hV]
  clear hV
  refine (markI_any V lo hi a len cap zs m hl hm0 hm1 HO.out).mono ?_
  rintro e w1 ⟨rfl, ho, hm⟩
  have HO1 := Lib.hid ho
  have HM1 := Lib.hid (HM.out.trans hm)
  obtain ⟨z, hz⟩ : ∃ z, z = m + (len : Int) := ⟨_, rfl⟩
  rw [← hz]
  have HZ := Lib.hid hz
  clear ho hm k1 hz
  go_wp2
  go_ret
  exact ⟨ret_intV HZ.out, HO1.out, HM1.out⟩
set_option maxHeartbeats 400000 in
theorem heldPrb_any (W : World) (x y : Int) (a : Option Addr) (len cap : Nat) (m : Int) (hl : len ≤ 1073741824) (hm0 : 0 ≤ m) (hm1 : m ≤ 4611686018427387904) (ha : Sees .i64 W a len (marksI m len)) :
    Calls Try.prog 16 #[.agg #[.int .i64 x, .int .i64 y, .slice a len cap], .int .i64 m] W fun e w' => e = .returned (.int .i64 (m + len)) ∧ Below W.heap.size W w' := by
  obtain ⟨V, hV⟩ : ∃ V, V = W.alloc (.cells #[.int .i64 x, .int .i64 y, .slice a len cap] 28) := ⟨_, rfl⟩
  have hb0 : Below W.heap.size W V := by
    rw [hV]
    exact (Below.refl _ _).alloc (Nat.le_refl _) _
  have k1 : V.cell? ⟨W.heap.size, 2, none⟩ = some (.slice a len cap) := by rw [hV]; go_simp
  have HA := Lib.hid (ha.below hb0)
  have HB := Lib.hid hb0
  clear hb0 ha
  go_enter Try.func16, Try.ntmps16
  go_wp2_with fail
  rw [← hV]
  clear hV
  refine (heldI_any V a len cap m hl hm0 hm1 HA.out).mono ?_
  rintro e w1 ⟨rfl, hb⟩
  have HB1 := Lib.hid (below_up HB.out hb (Nat.le_refl _))
  obtain ⟨z, hz⟩ : ∃ z, z = m + (len : Int) := ⟨_, rfl⟩
  have hz0 : ¬ z < 0 := by omega
  rw [← hz]
  have HZ := Lib.hid hz
  clear hb k1 hz
  go_wp2
  go_ret
  exact ⟨ret_intV HZ.out, HB1.out⟩
end Go.Proofs.Ytldeplmiggbonaa
