/- What a function gives for the elements of a list, in ascending order and each once: the program's setOf of numbers. -/
import Derived.Test.YtgninjdnfidpcaaSlA
import Derived.Test.YtgninjdnfidpcaaSortP
import Derived.Test.YtgninjdnfidpcaaIdxG
namespace Go.Proofs.Ytgninjdnfidpcaa
open Go.RowKit
theorem own_spot {k : IntKind} {e : TypeId} {w : World} {lo hi g len cap : Nat} {zs : List Int} (h : Own k e w lo hi (some ⟨g, 0, none⟩) len cap zs) :
    (∀ j, j < len → w.cell? ⟨g, j, none⟩ = some (.int k (zs.getD j 0))) ∧ (∀ j, w.frozen? ⟨g, j, none⟩ = false) ∧ len ≤ cap := by
  rcases h.spot with ⟨hx, _⟩ | ⟨q, hq, _, _, h1, _, h2, h3⟩
  · cases hx
  · obtain rfl : g = q := by simpa using hq
    exact ⟨h2, h3, h1⟩
set_option maxHeartbeats 1600000 in
theorem setI_any {K C B : Nat} {g : Int → Int} (W : World) (a : Option Addr) (len cap : Nat) (xs : List Int) (hK : Plain K)
    (hC : ∀ (V : World) (x : Int), (Lit.int .i64 x).wf = true → Below W.heap.size W V → Calls Try.prog K #[.int .i64 x, .pointer (some ⟨C, 0, none⟩), .pointer (some ⟨B, 0, none⟩)] V fun e w' => e = .returned (.int .i64 (g x)) ∧ Below V.heap.size V w')
    (hg : ∀ x ∈ xs, (Lit.int .i64 (g x)).wf = true) (hl : len ≤ 1048576) (hs : Sees .i64 W a len xs) :
    Calls Try.prog 54 #[.slice a len cap, .func (.func K) #[] #[.pointer (some ⟨C, 0, none⟩), .pointer (some ⟨B, 0, none⟩)]] W (Made .i64 3 (Lib.compact (sortI (xs.map g))) W) := by
  obtain ⟨zs, hzs⟩ : ∃ zs, zs = xs.map g := ⟨_, rfl⟩
  rw [← hzs]
  have HXL : Hid (xs.length = len) := Lib.hid hs.1
  have HL : Hid (zs.length = len) := Lib.hid (by rw [hzs, List.length_map]; exact hs.1)
  have HZ : Hid (∀ j, j < len → zs.getD j 0 = g (xs.getD j 0)) := Lib.hid (fun j hj => by
    have hjx : j < xs.length := by rw [HXL.out]; exact hj
    rw [hzs]; simp [List.getD, hjx])
  have HF : Hid (∀ j, j < len → (Lit.int .i64 (zs.getD j 0)).wf = true) := Lib.hid (fun j hj => by rw [HZ.out j hj]; exact hg _ (getD_mem (by rw [HXL.out]; exact hj)))
  have HS := Lib.hid hs
  have HK := Lib.hid hK
  have HC := Lib.hid hC
  clear hs hzs hg hK hC
  obtain ⟨i0, hi, hz0, hz1, hz2⟩ := info_parts info_i64
  go_enter Try.func54, Try.ntmps54
  go_wp2_with (at_make; refine wpList_make_full _ rfl _ _ 24 rfl W.heap.size 3 i0 (.int .i64 0) 1 Try.underlying24 hi hz0 hz1 _ _ _ _ len rfl rfl rfl rfl (by rw [hz2]; omega) (by unfold maxLen; omega) (by simp) ?_; intro w1 hown1 hgrow1; have HO1 := Lib.hid (made_row .i64 w1 _ len _ _ hown1); have HB1 := Lib.hid ((Below.refl W.heap.size W).grown hgrow1 (Nat.le_refl _) (fun k e => by cases e)); clear hown1 hgrow1)
  go_loopw [6, 7, 13] (fun _ _ i wr => ∃ k : Nat, k ≤ len ∧ i = .int .i64 k ∧ Own .i64 3 wr W.heap.size w1.heap.size (some ⟨W.heap.size, 0, none⟩) len len (over zs (List.replicate len 0) k) ∧ Below W.heap.size W wr) (fun _ _ i _ => len - (intOf i).toNat)
  case atStart => exact ⟨0, Nat.zero_le _, rfl, by rw [over_zero]; exact HO1.out, HB1.out⟩
  case round =>
    obtain ⟨k, hk, rfl, ho, hb⟩ := hrel
    have HO := Lib.hid ho
    have HB := Lib.hid hb
    have hszw := hb.size
    by_cases hlt : k < len
    · rcases HS.out.2.2 with h0 | ⟨b, o, rfl, hb0, hcs⟩
      · omega
      have c0 := (hb.cell (p := ⟨b, o + k, none⟩) hb0).trans (hcs k hlt)
      have HXW : Hid ((Lit.int .i64 (xs.getD k 0)).wf = true) := Lib.hid (HS.out.2.1 _ (getD_mem (by rw [HXL.out]; exact hlt)))
      have HY := Lib.hid (HZ.out k hlt)
      obtain ⟨x, hx⟩ : ∃ x, x = xs.getD k 0 := ⟨_, rfl⟩
      rw [← hx] at c0 HXW HY
      have hcf := HK.out #[.int .i64 x, .pointer (some ⟨C, 0, none⟩), .pointer (some ⟨B, 0, none⟩)] wr
      clear hcs hx ho hb
      go_wp2_with (refine (HC.out _ x HXW.out HB.out).mono ?_; rintro e w2 ⟨rfl, hb2⟩; have HB2 := Lib.hid (below_up HB.out hb2 (Nat.le_refl _)); have HO2 := Lib.hid (HO.out.below hb2); have hcd := (own_spot HO2.out).1 k hlt; have hfd := (own_spot HO2.out).2.1 k; clear hb2)
      go_roundw
      case rel =>
        have hst := HO2.out.stored k (zs.getD k 0) (HF.out k hlt)
        rw [over_set _ _ _ (by rw [HL.out]; simp) (by rw [HL.out]; exact hlt), HY.out] at hst
        exact ⟨k + 1, by omega, by go_num, hst.1, below_moved HB2.out hst.2 (Nat.le_refl _) (Nat.le_refl _)⟩
      case measure => simp [intOf]; omega
    · clear ho hb
      obtain rfl : k = len := by omega
      have h := HO.out
      have e : over zs (List.replicate k 0) k = zs := by
        have := over_all zs (List.replicate k 0) (by rw [HL.out]; simp)
        rwa [HL.out] at this
      rw [e] at h
      have HO := Lib.hid h
      clear h e
      go_wp2_with fail
      go_at_call 89
      refine (sortP_any _ _ _ _ _ _ _ hl HO.out).mono ?_
      rintro e w2 ⟨rfl, ho2, hm2⟩
      have HO2 := Lib.hid ho2
      have HB2 := Lib.hid (below_moved HB.out hm2 (Nat.le_refl _) (Nat.le_refl _))
      clear ho2 hm2
      go_wp2_with fail
      go_at_call 90
      refine (compactP_any _ _ _ _ _ _ _ hl HO2.out).mono ?_
      rintro e w3 ⟨rfl, ho3, hm3⟩
      have HO3 := Lib.hid (ho3.wide (Nat.le_refl _) ho3.2.2.1 (Nat.le_refl _))
      have HB3 := Lib.hid (below_moved HB2.out hm3 (Nat.le_refl _) (Nat.le_refl _))
      clear ho3 hm3
      go_wp2
      go_ret
      exact ⟨_, _, _, rfl, HO3.out, HB3.out⟩
end Go.Proofs.Ytgninjdnfidpcaa
