/- Bytes drawn by the model's cursor. -/
import Derived.Test.YtklookaggnohdaaDrawNum
import Derived.Test.YtklookaggnohdaaSlB
namespace Go.Proofs.Ytklookaggnohdaa
open Go.RowKit
theorem Cur.below {W W' : World} {B : Nat} (h : Cur W B) (hb : Below (B + 1) W W') : Cur W' B := by
  obtain ⟨a, len, cap, i, h0, c0, c1, c2, f1, f2, g1, g2, g3, hc⟩ := h
  have e : ∀ o, W'.cell? ⟨B, o, none⟩ = W.cell? ⟨B, o, none⟩ := fun o => hb.cell (p := ⟨B, o, none⟩) (Nat.lt_succ_self _)
  have ef : ∀ o, W'.frozen? ⟨B, o, none⟩ = W.frozen? ⟨B, o, none⟩ := fun o => hb.frozen (p := ⟨B, o, none⟩) (Nat.lt_succ_self _)
  refine ⟨a, len, cap, i, h0, (e 0).trans c0, (e 1).trans c1, (e 2).trans c2, (ef 1).trans f1, (ef 2).trans f2, g1, g2, g3, ?_⟩
  exact hc.below (hb.mono (Nat.le_succ _))
theorem grown_moved {a b c : World} {B lo hi : Nat} (h : a.grownBy b (some B)) (g : Moved lo hi b c) (hl : a.heap.size ≤ lo) : a.grownBy c (some B) :=
  ⟨g.os.trans h.os, g.tape.trans h.tape, g.output.trans h.output, Nat.le_trans h.size g.size, fun k hk hne => (g.block k (Nat.lt_of_lt_of_le hk h.size) (by omega)).trans (h.block k hk hne)⟩
theorem Own.grown {k : IntKind} {e : TypeId} {w w' : World} {lo hi B : Nat} {a : Option Addr} {len cap : Nat} {zs : List Int} (h : Own k e w lo hi a len cap zs) (hg : w.grownBy w' (some B)) (hB : B < lo) : Own k e w' lo hi a len cap zs :=
  h.moved (Moved.of_grown hg (Nat.le_refl B) (Nat.lt_succ_self B)) (.inr hB)
/-- What a draw of bytes leaves. -/
def DrewL (B n : Nat) (w : World) (e : Ending) (w' : World) : Prop :=
  ∃ (zs : List Int) (a : Option Addr) (len cap : Nat), len ≤ n ∧ e = .returned (.slice a len cap) ∧ Own .u8 5 w' w.heap.size w'.heap.size a len cap zs ∧ Cur w' B ∧ w.grownBy w' (some B)
set_option maxHeartbeats 800000 in
theorem bytes_any (W : World) (B : Nat) (n : Int) (hn : n ≤ 1000) (hc : Cur W B) : Calls Try.prog 46 #[.pointer (some ⟨B, 0, none⟩), .int .i64 n] W (DrewL B n.toNat W) := by
  have HC := Lib.hid hc
  have hB := hc.lt
  clear hc
  obtain ⟨i0, hi, hz0, hz1, hz2⟩ := info_parts info_u8
  go_enter Try.func46, Try.ntmps46
  go_wp2_with fail
  go_loopw [5, 6] (fun v i wr => ∃ (k : Nat) (kx : Int) (xs : List Int) (a' : Option Addr) (l' c' : Nat), kx = k ∧ k ≤ n.toNat ∧ i = .int .i64 kx ∧ v = .slice a' l' c' ∧ xs.length = k ∧ Own .u8 5 wr W.heap.size wr.heap.size a' l' c' xs ∧ Cur wr B ∧ W.grownBy wr (some B)) (fun _ i _ => n.toNat - (intOf i).toNat)
  case atStart => exact ⟨0, 0, [], _, _, _, rfl, Nat.zero_le _, rfl, rfl, rfl, (own_nil _ _ _).wide (Nat.le_refl _) (by simp) (Nat.le_refl _), HC.out.alloc _, World.grownBy_alloc W _ _⟩
  case round =>
    obtain ⟨k, kx, xs, a', l', c', hkx, hk, rfl, rfl, hxs, ho, hc, hg⟩ := hrel
    have HO := Lib.hid ho
    have HCC := Lib.hid hc
    have HG := Lib.hid hg
    have HK := Lib.hid hkx
    have HX := Lib.hid hxs
    have hl' : l' ≤ 1000 := by have := ho.1; omega
    have hk0 : 0 ≤ kx := by omega
    have hk1 : kx ≤ 1000 := by omega
    clear ho hc hg hxs
    by_cases hlt : kx < n
    · clear hkx hk
      go_wp2_with fail
      go_at_call 61
      refine (byte_any _ B HCC.out).mono ?_
      rintro e w1 ⟨x, ⟨hx0, hx1⟩, rfl, hc1, hg1⟩
      have HO1 := Lib.hid (HO.out.grown hg1 hB)
      have HC1 := Lib.hid hc1
      have HG1 := Lib.hid (grown_trans HG.out hg1)
      have hsz1 := HG1.out.size
      clear hc1 hg1
      go_wp2_with (at_builtin; refine wp_append_sees rfl _ _ 22 rfl 5 i0 .u8 1 Try.underlying22 hi hz0 hz1 hz2 _ _ _ _ rfl _ _ (HO1.out.alloc _) _ _ _ _ rfl (sees_one (x := x) (WalkArith.wf_u8 (by omega)) _ _) (by unfold maxLen; omega) (by omega) (by simp; omega) ?_; intro a2 len2 cap2 w2 hlen2 ho2 hm2; clear hlen2; have HO2 := Lib.hid ho2; have HM2 := Lib.hid hm2; clear ho2 hm2)
      go_roundw
      case rel =>
        refine ⟨k + 1, kx + 1, _, _, _, _, by have := HK.out; omega, by have := HK.out; omega, rfl, rfl, by simp [HX.out], HO2.out, ?_, ?_⟩
        · exact (HC1.out.alloc _).below (HM2.out.below (by omega) (by simp; omega))
        · exact grown_moved (grown_trans HG1.out (World.grownBy_alloc w1 _ _)) HM2.out (Nat.le_refl _)
      case measure => simp [intOf]; omega
    · clear hkx
      go_wp2_with fail
      go_ret
      exact ⟨xs, _, _, _, by have := HO.out.1; have := HX.out; omega, rfl, HO.out, HCC.out, HG.out⟩
end Go.Proofs.Ytklookaggnohdaa
