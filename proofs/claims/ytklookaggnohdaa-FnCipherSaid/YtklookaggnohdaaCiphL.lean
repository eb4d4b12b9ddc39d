/- The walk of the law on the cipher. -/
import Derived.Test.YtklookaggnohdaaDraw3
import Derived.Test.YtklookaggnohdaaSame
import Derived.Test.YtklookaggnohdaaCipher
namespace Go.Proofs.Ytklookaggnohdaa
open Go.RowKit
theorem list_same {xs ys : List Int} (h : xs.length = ys.length) (h2 : ∀ j, j < ys.length → xs.getD j 0 = ys.getD j 0) : xs = ys := by
  apply List.ext_getElem h
  intro i h3 h4
  have := h2 i h4
  simpa [List.getD, h3, h4] using this
theorem decL_encL {key : Int} {zs : List Int} (h : ∀ z ∈ zs, (Lit.int .u8 z).wf = true) : decL key (encL key zs) = zs := by
  refine list_same (by rw [decL_len, encL_len]) fun j hj => ?_
  have hz := bounds_u8 (h _ (getD_mem hj))
  rw [decL_at (by rw [encL_len]; exact hj), encL_at hj]
  omega
theorem encL_decL {key : Int} {zs : List Int} (h : ∀ z ∈ zs, (Lit.int .u8 z).wf = true) : encL key (decL key zs) = zs := by
  refine list_same (by rw [encL_len, decL_len]) fun j hj => ?_
  have hz := bounds_u8 (h _ (getD_mem hj))
  rw [encL_at (by rw [decL_len]; exact hj), decL_at hj]
  omega
set_option maxHeartbeats 4000000 in
set_option maxRecDepth 20000 in
theorem lawCipher_small (W : World) (a : Option Addr) (len cap : Nat) (hl : len ≤ 1048576) (hk : CodeAt W W.heap.size a len) : Calls Try.prog 3 #[.slice a len cap] W (RetTrue W) := by
  have HK := Lib.hid hk
  clear hk
  go_enter Try.func3, Try.ntmps3
  go_wp2_with (go_at_call 13; refine (big_no _ a len cap hl).mono ?_; rintro e w0 ⟨rfl, rfl⟩)
  go_at_call 14
  refine (drawEncrypt_any _ a len cap hl HK.out).mono ?_
  rintro e w1 ⟨key, zs, a1, l1, c1, ⟨hk0, hk1⟩, hl1, rfl, ho1, hb1⟩
  have HD := Lib.hid (decL_encL (key := key) ho1.2.1)
  have HE := Lib.hid (encL_decL (key := key) ho1.2.1)
  have HL := Lib.hid ho1.1
  have HO1 := Lib.hid ho1
  have HB1 := Lib.hid hb1
  clear ho1 hb1
  go_wp2_with fail
  go_at_call 17
  refine (encrypt_any _ key _ _ _ zs (by omega) (by omega) (by omega) HO1.out.sees).mono ?_
  rintro e w2 ⟨a2, l2, c2, rfl, ho2, hb2⟩
  have hl2 : l2 ≤ 7 := by have := ho2.1; rw [encL_len, HL.out] at this; omega
  have HO2 := Lib.hid ho2
  have HP2 := Lib.hid (HO1.out.below hb2)
  have HB2 := Lib.hid (below_up HB1.out hb2 (Nat.le_refl _))
  clear ho2 hb2
  go_wp2_with fail
  go_at_call 16
  refine (decrypt_any _ key _ _ _ (encL key zs) (by omega) (by omega) (by omega) HO2.out.sees).mono ?_
  rintro e w3 ⟨a3, l3, c3, rfl, ho3, hb3⟩
  rw [HD.out] at ho3
  have hl3 : l1 = l3 := HL.out.symm.trans ho3.1
  subst hl3
  have HO3 := Lib.hid ho3
  have HP3 := Lib.hid (HP2.out.below hb3)
  have HB3 := Lib.hid (below_up HB2.out hb3 (Nat.le_refl _))
  clear ho3 hb3
  go_wp2_with fail
  go_at_call 15
  refine (sameB_yes _ _ _ _ _ _ zs (by omega) HO3.out.sees HP3.out.sees).mono ?_
  rintro e w4 ⟨rfl, hb4⟩
  have HP4 := Lib.hid (HP3.out.below hb4)
  have HB4 := Lib.hid (below_up HB3.out hb4 (Nat.le_refl _))
  clear hb4
  go_wp2_with fail
  go_at_call 16
  refine (decrypt_any _ key _ _ _ zs (by omega) (by omega) (by omega) HP4.out.sees).mono ?_
  rintro e w5 ⟨a5, l5, c5, rfl, ho5, hb5⟩
  have hl5 : l5 ≤ 7 := by have := ho5.1; rw [decL_len, HL.out] at this; omega
  have HO5 := Lib.hid ho5
  have HP5 := Lib.hid (HP4.out.below hb5)
  have HB5 := Lib.hid (below_up HB4.out hb5 (Nat.le_refl _))
  clear ho5 hb5
  go_wp2_with fail
  go_at_call 17
  refine (encrypt_any _ key _ _ _ (decL key zs) (by omega) (by omega) (by omega) HO5.out.sees).mono ?_
  rintro e w6 ⟨a6, l6, c6, rfl, ho6, hb6⟩
  rw [HE.out] at ho6
  have hl6 : l1 = l6 := HL.out.symm.trans ho6.1
  subst hl6
  have HO6 := Lib.hid ho6
  have HP6 := Lib.hid (HP5.out.below hb6)
  have HB6 := Lib.hid (below_up HB5.out hb6 (Nat.le_refl _))
  clear ho6 hb6
  go_wp2_with fail
  go_at_call 15
  refine (sameB_yes _ _ _ _ _ _ zs (by omega) HO6.out.sees HP6.out.sees).mono ?_
  rintro e w7 ⟨rfl, hb7⟩
  have HP7 := Lib.hid (HP6.out.below hb7)
  have HB7 := Lib.hid (below_up HB6.out hb7 (Nat.le_refl _))
  clear hb7
  go_wp2_with fail
  go_at_call 17
  refine (encrypt_any _ key _ _ _ zs (by omega) (by omega) (by omega) HP7.out.sees).mono ?_
  rintro e w8 ⟨a8, l8, c8, rfl, ho8, hb8⟩
  have hl8 : l1 = l8 := by have := ho8.1; rw [encL_len, HL.out] at this; exact this
  subst hl8
  have HB8 := Lib.hid (below_up HB7.out hb8 (Nat.le_refl _))
  clear ho8 hb8
  go_wp2_with fail
  go_ret
  exact ⟨rfl, HB8.out⟩
theorem lawCipher_walk (a : Option Addr) (len cap : Nat) (z : List Int) (W : World) (w0 : IsRow .u8 W a len cap z) :
    Calls Try.prog 3 #[.slice a len cap] W (RetTrue W) := by
  by_cases hl : len ≤ 1048576
  · exact lawCipher_small W a len cap hl (code_of w0)
  · clear w0
    go_enter Try.func3, Try.ntmps3
    go_wp2_with (go_at_call 13; refine (big_yes _ a len cap hl).mono ?_; rintro e w0 ⟨rfl, rfl⟩)
    go_ret
    exact ⟨rfl, Below.refl _ _⟩
end Go.Proofs.Ytklookaggnohdaa
