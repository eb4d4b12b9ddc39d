/- The keyed hash: the model's function and the program's. -/
import Derived.Test.YtklookaggnohdaaHash
import Derived.Test.YtklookaggnohdaaConcat
namespace Go.Proofs.Ytklookaggnohdaa
open Go.RowKit
def keyV (key : Int) (vs : List Int) : Int := hashV ([key] ++ vs ++ [key])
theorem keyV_bd (key : Int) (vs : List Int) : 0 ≤ keyV key vs ∧ keyV key vs ≤ 2147483646 := hashV_bd _
set_option maxHeartbeats 1600000 in
theorem specKeyed_any (W : World) (key : Int) (a : Option Addr) (len cap : Nat) (vs : List Int) (hk0 : -9223372036854775808 ≤ key) (hk1 : key ≤ 9223372036854775807) (hl : len ≤ 1073741800) (hs : Sees .i64 W a len vs) :
    Calls Try.prog 29 #[.int .i64 key, .slice a len cap] W fun e w' => e = .returned (.int .i64 (keyV key vs)) ∧ Below W.heap.size W w' := by
  have HS := Lib.hid hs
  clear hs
  obtain ⟨i0, hi, hz0, hz1, hz2⟩ := info_parts info_i64
  have hkw : (Lit.int .i64 key).wf = true := WalkArith.wf_i64 (by omega)
  have HKW := Lib.hid hkw
  clear hkw
  go_enter Try.func29, Try.ntmps29
  go_wp2_with (first
    | (at_builtin; refine wp_append_sees rfl _ _ 28 rfl 3 i0 .i64 8 Try.underlying28 hi hz0 hz1 hz2 _ _ _ _ rfl _ _ (own_one HKW.out _ W) _ _ _ _ rfl (HS.out.alloc _) (by unfold maxLen; omega) (by omega) (by simp) ?_; intro b1 len1 cap1 w1 hlen1 ho1 hm1; have hl1 : len1 ≤ 1073741801 := (by omega); have HO1 := Lib.hid ho1; have HB1 := Lib.hid (below_moved ((Below.refl W.heap.size W).alloc (Nat.le_refl _) _) hm1 (Nat.le_refl _) (Nat.le_refl _)); have hz := HB1.out.size; clear ho1 hm1 hlen1)
    | (at_builtin; refine wp_append_sees rfl _ _ 28 rfl 3 i0 .i64 8 Try.underlying28 hi hz0 hz1 hz2 _ _ _ _ rfl _ _ (HO1.out.alloc _) _ _ _ _ rfl (sees_one HKW.out w1 _) (by unfold maxLen; omega) (by omega) (by simp; omega) ?_; intro b2 len2 cap2 w2 hlen2 ho2 hm2; have hl2 : len2 ≤ 1073741802 := (by omega); have HO2 := Lib.hid ho2; have HB2 := Lib.hid (below_moved (HB1.out.alloc hz _) hm2 (Nat.le_refl _) (Nat.le_refl _)); clear ho2 hm2 hlen2)
    | (go_at_call 26; refine (specHash_any _ _ _ _ ([key] ++ vs ++ [key]) (by omega) HO2.out.sees).mono ?_; rintro e w' ⟨rfl, rfl⟩))
  go_ret
  exact ⟨rfl, HB2.out⟩
set_option maxHeartbeats 1600000 in
theorem keyed_any (W : World) (key : Int) (a : Option Addr) (len cap : Nat) (vs : List Int) (hk0 : -9223372036854775808 ≤ key) (hk1 : key ≤ 9223372036854775807) (hl : len ≤ 1073741800) (hs : Sees .i64 W a len vs) :
    Calls Try.prog 19 #[.int .i64 key, .slice a len cap] W fun e w' => e = .returned (.int .i64 (keyV key vs)) ∧ Below W.heap.size W w' := by
  have HS := Lib.hid hs
  clear hs
  have hkw : (Lit.int .i64 key).wf = true := WalkArith.wf_i64 (by omega)
  have HKW := Lib.hid hkw
  clear hkw
  go_enter Try.func19, Try.ntmps19
  go_wp2_with fail
  go_at_call 51
  refine (concat_any _ _ 3 (fun j => if j = 0 then some ⟨W.heap.size, 0, none⟩ else if j = 1 then a else some ⟨W.heap.size + 1, 0, none⟩) (fun j => if j = 1 then len else 1) (fun j => if j = 1 then cap else 1) (fun j => if j = 1 then vs else [key]) (by decide) (by simp [tot]; omega) ⟨by simp, fun j hj => ?_, fun j hj => ?_⟩).mono ?_
  · obtain rfl | rfl | rfl : j = 0 ∨ j = 1 ∨ j = 2 := by omega
    all_goals (simp; rw [World.cell?_alloc_at _ _ _ _ (by simp)]; rfl)
  · obtain rfl | rfl | rfl : j = 0 ∨ j = 1 ∨ j = 2 := by omega
    · exact ((sees_one HKW.out W _).alloc _).alloc _
    · exact ((HS.out.alloc _).alloc _).alloc _
    · have := (sees_one HKW.out (W.alloc (.cells #[.int .i64 key] 3)) 3).alloc (.cells #[.slice (some ⟨W.heap.size, 0, none⟩) 1 1, .slice a len cap, .slice (some ⟨W.heap.size + 1, 0, none⟩) 1 1] 28)
      simpa using this
  rintro e w1 ⟨b1, l1, c1, rfl, ho1, hb1⟩
  have hl1 : l1 ≤ 1073741840 := by have h := ho1.1; have h2 := HS.out.1; simp [cat] at h; omega
  have e1 : cat (fun j => if j = 1 then vs else [key]) 3 = [key] ++ vs ++ [key] := by simp [cat]
  rw [e1] at ho1
  have HO1 := Lib.hid ho1
  have HB1 := Lib.hid ((((((Below.refl W.heap.size W).alloc (Nat.le_refl _) _).alloc (by simp) _).alloc (by simp; omega) _)).trans (hb1.mono (by simp; omega)))
  clear ho1 hb1 e1
  go_wp2_with (go_at_call 20; refine (hash_any _ _ _ _ ([key] ++ vs ++ [key]) (by omega) HO1.out.sees).mono ?_; rintro e w' ⟨rfl, rfl⟩)
  go_ret
  exact ⟨rfl, HB1.out⟩
theorem specHash_bel (W : World) (a : Option Addr) (len cap : Nat) (vs : List Int) (hl : len ≤ 1073741840) (hs : Sees .i64 W a len vs) :
    Calls Try.prog 26 #[.slice a len cap] W fun e w' => e = .returned (.int .i64 (hashV vs)) ∧ Below W.heap.size W w' :=
  (specHash_any W a len cap vs hl hs).mono fun _ _ ⟨he, hw⟩ => ⟨he, hw ▸ Below.refl _ _⟩
theorem hash_bel (W : World) (a : Option Addr) (len cap : Nat) (vs : List Int) (hl : len ≤ 1073741840) (hs : Sees .i64 W a len vs) :
    Calls Try.prog 20 #[.slice a len cap] W fun e w' => e = .returned (.int .i64 (hashV vs)) ∧ Below W.heap.size W w' :=
  (hash_any W a len cap vs hl hs).mono fun _ _ ⟨he, hw⟩ => ⟨he, hw ▸ Below.refl _ _⟩
end Go.Proofs.Ytklookaggnohdaa
