/- AddressesOf, the program's. -/
import Derived.Test.YtgomfmigcolloaaAlU
import Derived.Test.YtgomfmigcolloaaAlM
import Derived.Test.YtgomfmigcolloaaSortP
namespace Go.Proofs.Ytgomfmigcolloaa
open Go.RowKit
set_option maxHeartbeats 1600000 in
theorem addrP_any (W : World) (a : Option Addr) (len cap : Nat) (xs : List (Int × Int × Int)) (hl : len ≤ 1048576) (hs : SeesY W a len xs) :
    Calls Try.prog 14 #[.slice a len cap] W (Made .i64 3 (addrV xs) W) := by
  have hfit := hs.2.1
  obtain ⟨zs, hzs⟩ : ∃ zs, zs = xs.map (·.1) := ⟨_, rfl⟩
  have HXL : Hid (xs.length = len) := Lib.hid hs.1
  have HL : Hid (zs.length = len) := Lib.hid (by rw [hzs, List.length_map]; exact hs.1)
  have HZ : Hid (∀ j, j < len → zs.getD j 0 = (rep xs j).1) := Lib.hid (fun j hj => by
    have hjx : j < xs.length := by rw [HXL.out]; exact hj
    rw [hzs]; simp [rep, List.getD, hjx])
  have HF : Hid (∀ j, j < len → (Lit.int .i64 (zs.getD j 0)).wf = true) := Lib.hid (fun j hj => by rw [HZ.out j hj]; exact (hfit _ (rep_mem (by rw [HXL.out]; exact hj))).1)
  have HS := Lib.hid hs
  have HADD : Hid (Lib.compact (sortI zs) = addrV xs) := Lib.hid (asc_uniq (compact_sort_asc _) (addr_asc xs) (fun x => by rw [compact_mem, sortI_mem, addr_mem2, hzs, List.mem_map]))
  clear hs hzs hfit
  obtain ⟨i0, hi, hz0, hz1, hz2⟩ := info_parts info_i64
  go_enter Try.func14, Try.ntmps14
  go_wp2_with (at_make; refine wpList_make_full _ rfl _ _ 29 rfl W.heap.size 3 i0 (.int .i64 0) 1 Try.underlying29 hi hz0 hz1 _ _ _ _ len rfl rfl rfl rfl (by rw [hz2]; omega) (by unfold maxLen; omega) (by simp) ?_; intro w1 hown1 hgrow1; have HO1 := Lib.hid (made_row .i64 w1 _ len _ _ hown1); have HB1 := Lib.hid ((Below.refl W.heap.size W).grown hgrow1 (Nat.le_refl _) (fun k e => by cases e)); clear hown1 hgrow1)
  go_loopw [4, 11] (fun _ i wr => ∃ k : Nat, k ≤ len ∧ i = .int .i64 k ∧ Own .i64 3 wr W.heap.size w1.heap.size (some ⟨W.heap.size, 0, none⟩) len len (over zs (List.replicate len 0) k) ∧ Below W.heap.size W wr) (fun _ i _ => len - (intOf i).toNat)
  case atStart => exact ⟨0, Nat.zero_le _, rfl, by rw [over_zero]; exact HO1.out, HB1.out⟩
  case round =>
    obtain ⟨k, hk, rfl, ho, hb⟩ := hrel
    have HO := Lib.hid ho
    have HB := Lib.hid hb
    have hszw := hb.size
    by_cases hlt : k < len
    · obtain ⟨b, o, rfl, hb0, hcs⟩ := HS.out.at hlt
      have c0 := (hb.cell (p := ⟨b, o + k * 3, none⟩) hb0).trans (hcs k hlt).1
      have c1 := (hb.cell (p := ⟨b, o + k * 3 + 1, none⟩) hb0).trans (hcs k hlt).2.1
      have c2 := (hb.cell (p := ⟨b, o + k * 3 + 2, none⟩) hb0).trans (hcs k hlt).2.2
      obtain ⟨x, y, z, hp⟩ : ∃ x y z, rep xs k = (x, y, z) := ⟨_, _, _, rfl⟩
      rw [hp] at c0 c1 c2
      have HY : Hid (zs.getD k 0 = x) := Lib.hid (by rw [HZ.out k hlt, hp])
      have hoA := ho.alloc (.cells #[.int .i64 x, .int .i64 y, .int .i64 z] 55)
      have HOA := Lib.hid hoA
      rcases hoA.spot with ⟨hx, _⟩ | ⟨g, hg, _, _, _, _, hcd0, hfz⟩
      · cases hx
      · obtain rfl : W.heap.size = g := by simpa using hg
        have hcd := hcd0 k hlt
        have hfd := hfz k
        have HBA := Lib.hid (hb.alloc hszw (.cells #[.int .i64 x, .int .i64 y, .int .i64 z] 55))
        clear hcs hcd0 hfz ho hb hg hp hoA
        go_wp2
        go_roundw
        case rel =>
          have hst := HOA.out.stored k (zs.getD k 0) (HF.out k hlt)
          rw [over_set _ _ _ (by rw [HL.out]; simp) (by rw [HL.out]; exact hlt), HY.out] at hst
          exact ⟨k + 1, by omega, by go_num, hst.1, below_moved HBA.out hst.2 (Nat.le_refl _) (Nat.le_refl _)⟩
        case measure => simp [intOf]; omega
    · clear ho hb
      obtain rfl : k = len := by omega
      have h := HO.out
      have e : over zs (List.replicate k 0) k = zs := by
        have := over_all zs (List.replicate k 0) (by rw [HL.out]; simp)
        rwa [HL.out] at this
      rw [e] at h
      have HO := Lib.hid h
      clear h e
      go_wp2_with fail
      go_at_call 45
      refine (sortP_any _ _ _ _ _ _ _ hl HO.out).mono ?_
      rintro e w2 ⟨rfl, ho2, hm2⟩
      have HO2 := Lib.hid ho2
      have HB2 := Lib.hid (below_moved HB.out hm2 (Nat.le_refl _) (Nat.le_refl _))
      clear ho2 hm2
      go_wp2_with fail
      go_at_call 46
      refine (compactP_any _ _ _ _ _ _ _ hl HO2.out).mono ?_
      rintro e w3 ⟨rfl, ho3, hm3⟩
      rw [HADD.out] at ho3
      have HO3 := Lib.hid (ho3.wide (Nat.le_refl _) ho3.2.2.1 (Nat.le_refl _))
      have HB3 := Lib.hid (below_moved HB2.out hm3 (Nat.le_refl _) (Nat.le_refl _))
      clear ho3 hm3
      go_wp2
      go_ret
      exact ⟨_, _, _, by rw [HADD.out]; rfl, HO3.out, HB3.out⟩
end Go.Proofs.Ytgomfmigcolloaa
