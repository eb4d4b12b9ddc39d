/- What a function gives for replies, in ascending order and each once: the program's setOf of replies; AddressesOf. -/
import Derived.Test.YtgninjdnfidpcaaAlU
import Derived.Test.YtgninjdnfidpcaaAlM
import Derived.Test.YtgninjdnfidpcaaSetP
namespace Go.Proofs.Ytgninjdnfidpcaa
open Go.RowKit
set_option maxHeartbeats 1600000 in
theorem setY_any {K : Nat} (W : World) (a : Option Addr) (len cap : Nat) (xs : List (Int × Int × Int)) (hK : Plain K)
    (hC : ∀ (x y z : Int) (V : World), Calls Try.prog K #[.agg #[.int .i64 x, .int .i64 y, .int .i64 z]] V fun e w' => e = .returned (.int .i64 x) ∧ Below V.heap.size V w') (hl : len ≤ 1048576) (hs : SeesY W a len xs) :
    Calls Try.prog 78 #[.slice a len cap, .func (.func K) #[] #[]] W (Made .i64 3 (addrV xs) W) := by
  have hfit := hs.2.1
  obtain ⟨zs, hzs⟩ : ∃ zs, zs = xs.map (·.1) := ⟨_, rfl⟩
  have HXL : Hid (xs.length = len) := Lib.hid hs.1
  have HL : Hid (zs.length = len) := Lib.hid (by rw [hzs, List.length_map]; exact hs.1)
  have HZ : Hid (∀ j, j < len → zs.getD j 0 = (rep xs j).1) := Lib.hid (fun j hj => by
    have hjx : j < xs.length := by rw [HXL.out]; exact hj
    rw [hzs]; simp [rep, List.getD, hjx])
  have HF : Hid (∀ j, j < len → (Lit.int .i64 (zs.getD j 0)).wf = true) := Lib.hid (fun j hj => by rw [HZ.out j hj]; exact (hfit _ (rep_mem (by rw [HXL.out]; exact hj))).1)
  have HS := Lib.hid hs
  have HADD : Hid (Lib.compact (sortI zs) = addrV xs) := Lib.hid (asc_uniq (compact_sort_asc _) (addr_asc xs) (fun x => by rw [compact_mem, sortI_mem, addr_mem2, hzs, List.mem_map]))
  have HK := Lib.hid hK
  have HC := Lib.hid hC
  clear hs hzs hfit hK hC
  obtain ⟨i0, hi, hz0, hz1, hz2⟩ := info_parts info_i64
  go_enter Try.func78, Try.ntmps78
  go_wp2_with (at_make; refine wpList_make_full _ rfl _ _ 24 rfl W.heap.size 3 i0 (.int .i64 0) 1 Try.underlying24 hi hz0 hz1 _ _ _ _ len rfl rfl rfl rfl (by rw [hz2]; omega) (by unfold maxLen; omega) (by simp) ?_; intro w1 hown1 hgrow1; have HO1 := Lib.hid (made_row .i64 w1 _ len _ _ hown1); have HB1 := Lib.hid ((Below.refl W.heap.size W).grown hgrow1 (Nat.le_refl _) (fun k e => by cases e)); clear hown1 hgrow1)
  go_loopw [6, 7, 13] (fun _ _ i wr => ∃ k : Nat, k ≤ len ∧ i = .int .i64 k ∧ Own .i64 3 wr W.heap.size w1.heap.size (some ⟨W.heap.size, 0, none⟩) len len (over zs (List.replicate len 0) k) ∧ Below W.heap.size W wr) (fun _ _ i _ => len - (intOf i).toNat)
  case atStart => exact ⟨0, Nat.zero_le _, rfl, by rw [over_zero]; exact HO1.out, HB1.out⟩
  case round =>
    obtain ⟨k, hk, rfl, ho, hb⟩ := hrel
    have HO := Lib.hid ho
    have HB := Lib.hid hb
    have hszw := hb.size
    by_cases hlt : k < len
    · obtain ⟨b, o, rfl, hb0, hcs⟩ := HS.out.at hlt
      have c0 := (hb.cell (p := ⟨b, o + k * 3, none⟩) hb0).trans (hcs k hlt).1
      have c1 := (hb.cell (p := ⟨b, o + k * 3 + 1, none⟩) hb0).trans (hcs k hlt).2.1
      have c2 := (hb.cell (p := ⟨b, o + k * 3 + 2, none⟩) hb0).trans (hcs k hlt).2.2
      obtain ⟨x, y, z, hp⟩ : ∃ x y z, rep xs k = (x, y, z) := ⟨_, _, _, rfl⟩
      rw [hp] at c0 c1 c2
      have HY : Hid (zs.getD k 0 = x) := Lib.hid (by rw [HZ.out k hlt, hp])
      have HOA := Lib.hid (ho.alloc (.cells #[.int .i64 x, .int .i64 y, .int .i64 z] 86))
      have HBA := Lib.hid (hb.alloc hszw (.cells #[.int .i64 x, .int .i64 y, .int .i64 z] 86))
      have hcf : ∀ w : World, Sem.run Try.prog (callFunc K #[.agg #[.int .i64 x, .int .i64 y, .int .i64 z]]) w = .ok (.enter K #[.agg #[.int .i64 x, .int .i64 y, .int .i64 z]]) w := fun w => HK.out _ w
      clear hcs ho hb hp
      go_wp2_with (refine (HC.out x y z _).mono ?_; rintro e w2 ⟨rfl, hb2⟩; have HB2 := Lib.hid (below_up HBA.out hb2 (Nat.le_refl _)); have HO2 := Lib.hid (HOA.out.below hb2); have hcd := (own_spot HO2.out).1 k hlt; have hfd := (own_spot HO2.out).2.1 k; clear hb2)
      go_roundw
      case rel =>
        have hst := HO2.out.stored k (zs.getD k 0) (HF.out k hlt)
        rw [over_set _ _ _ (by rw [HL.out]; simp) (by rw [HL.out]; exact hlt), HY.out] at hst
        exact ⟨k + 1, by omega, by go_num, hst.1, below_moved HB2.out hst.2 (Nat.le_refl _) (Nat.le_refl _)⟩
      case measure => simp [intOf]; omega
    · clear ho hb
      obtain rfl : k = len := by omega
      have h := HO.out
      have e : over zs (List.replicate k 0) k = zs := by
        have := over_all zs (List.replicate k 0) (by rw [HL.out]; simp)
        rwa [HL.out] at this
      rw [e] at h
      have HO := Lib.hid h
      clear h e
      go_wp2_with fail
      go_at_call 89
      refine (sortP_any _ _ _ _ _ _ _ hl HO.out).mono ?_
      rintro e w2 ⟨rfl, ho2, hm2⟩
      have HO2 := Lib.hid ho2
      have HB2 := Lib.hid (below_moved HB.out hm2 (Nat.le_refl _) (Nat.le_refl _))
      clear ho2 hm2
      go_wp2_with fail
      go_at_call 90
      refine (compactP_any _ _ _ _ _ _ _ hl HO2.out).mono ?_
      rintro e w3 ⟨rfl, ho3, hm3⟩
      rw [HADD.out] at ho3
      have HO3 := Lib.hid (ho3.wide (Nat.le_refl _) ho3.2.2.1 (Nat.le_refl _))
      have HB3 := Lib.hid (below_moved HB2.out hm3 (Nat.le_refl _) (Nat.le_refl _))
      clear ho3 hm3
      go_wp2
      go_ret
      exact ⟨_, _, _, by rw [HADD.out]; rfl, HO3.out, HB3.out⟩
theorem addr1_any (x y z : Int) (w : World) : Calls Try.prog 79 #[.agg #[.int .i64 x, .int .i64 y, .int .i64 z]] w fun e w' => e = .returned (.int .i64 x) ∧ Below w.heap.size w w' := by
  obtain ⟨V, hV⟩ : ∃ V, V = w.alloc (.cells #[.int .i64 x, .int .i64 y, .int .i64 z] 86) := ⟨_, rfl⟩
  have p0 : V.cell? ⟨w.heap.size, 0, none⟩ = some (.int .i64 x) := by rw [hV]; simp
  have HB := Lib.hid (show Below w.heap.size w V by rw [hV]; exact (Below.refl _ _).alloc (Nat.le_refl _) _)
  go_enter Try.func79, Try.ntmps79
  go_wp2_with fail
  rw [← hV]
  clear hV
  go_wp2
  go_ret
  exact ⟨rfl, HB.out⟩
theorem addrP_any (W : World) (a : Option Addr) (len cap : Nat) (xs : List (Int × Int × Int)) (hl : len ≤ 1048576) (hs : SeesY W a len xs) :
    Calls Try.prog 38 #[.slice a len cap] W (Made .i64 3 (addrV xs) W) := by
  have hPl : Plain 79 := fun _ _ => by kernel_rfl
  have H := Lib.hid (setY_any W a len cap xs hPl addr1_any hl hs)
  clear hs hPl
  go_enter Try.func38, Try.ntmps38
  go_wp2_with fail
  go_at_call 78
  refine H.out.mono ?_
  rintro e w2 ⟨a2, l2, c2, rfl, ho, hb⟩
  have HO := Lib.hid ho
  have HB := Lib.hid hb
  clear ho hb
  go_wp2
  go_ret
  exact ⟨_, _, _, rfl, HO.out, HB.out⟩
end Go.Proofs.Ytgninjdnfidpcaa
