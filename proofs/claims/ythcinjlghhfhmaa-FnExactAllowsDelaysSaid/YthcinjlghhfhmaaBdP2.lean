/- The program's narrowing: its cells, the sum of a row's other links, waking rows. -/
import Derived.Test.YthcinjlghhfhmaaBdP1
import Derived.Test.YthcinjlghhfhmaaOwnG
import Derived.StillTailTactics
namespace Go.Proofs.Ythcinjlghhfhmaa
open Go.RowKit
/-- The cells of a narrowing. -/
structure NwC (w : World) (B : Nat) (a : Option Addr) (len cap : Nat) (b : Option Addr) (lb cb g lc cc h ld cd : Nat) : Prop where
  c0 : w.cell? ⟨B, 0, none⟩ = some (.slice a len cap)
  c1 : w.cell? ⟨B, 1, none⟩ = some (.slice b lb cb)
  c2 : w.cell? ⟨B, 2, none⟩ = some (.slice (some ⟨g, 0, none⟩) lc cc)
  c3 : w.cell? ⟨B, 3, none⟩ = some (.slice (some ⟨h, 0, none⟩) ld cd)
  lt : B < w.heap.size
theorem NwC.moved {w w' : World} {B : Nat} {a : Option Addr} {len cap : Nat} {b : Option Addr} {lb cb g lc cc h ld cd lo hi : Nat} (q : NwC w B a len cap b lb cb g lc cc h ld cd) (hm : Moved lo hi w w') (ho : B < lo ∨ hi ≤ B) : NwC w' B a len cap b lb cb g lc cc h ld cd := by
  have e : ∀ x, w'.cell? ⟨B, x, none⟩ = w.cell? ⟨B, x, none⟩ := fun x => World.cell?_of_block (w := w) (a := ⟨B, x, none⟩) (hm.block B q.lt (by omega))
  exact ⟨(e 0).trans q.c0, (e 1).trans q.c1, (e 2).trans q.c2, (e 3).trans q.c3, Nat.lt_of_lt_of_le q.lt hm.size⟩
theorem NwC.below {w w' : World} {B : Nat} {a : Option Addr} {len cap : Nat} {b : Option Addr} {lb cb g lc cc h ld cd : Nat} (q : NwC w B a len cap b lb cb g lc cc h ld cd) (hb : Below w.heap.size w w') : NwC w' B a len cap b lb cb g lc cc h ld cd :=
  q.moved (Moved.of_below (lo := w.heap.size) (hi := w.heap.size) hb) (.inl q.lt)
theorem PairAt.set0 {w : World} {g : Nat} {x y : Int} (h : PairAt w g x y) (n : Int) : PairAt (w.setCell ⟨g, 0, none⟩ (.int .i64 n)) g n y := by
  obtain ⟨h0, h1, h2, h3, h4⟩ := h
  exact ⟨by go_simp, by go_simp, by go_simp, by go_simp, by simpa [World.setCell] using h4⟩
theorem PairAt.set1 {w : World} {g : Nat} {x y : Int} (h : PairAt w g x y) (n : Int) : PairAt (w.setCell ⟨g, 1, none⟩ (.int .i64 n)) g x n := by
  obtain ⟨h0, h1, h2, h3, h4⟩ := h
  exact ⟨by go_simp, by go_simp, by go_simp, by go_simp, by simpa [World.setCell] using h4⟩
set_option maxRecDepth 20000 in
set_option maxHeartbeats 3200000 in
theorem sumP_any (W w : World) (B : Nat) (a : Option Addr) (len cap : Nat) (b : Option Addr) (lb cb g lc cc h ld cd : Nat) (ms : List (List Int)) (xs : List (Int × Int)) (i k : Nat) (hb : Below W.heap.size W w) (hs : SeesM W a len ms) (hc : NwC w B a len cap b lb cb g lc cc h ld cd)
    (ho : OwnV w g (g + 1) (some ⟨g, 0, none⟩) lc cc xs) (hi : i < len) (hr : (row ms i).length = lc) (h6 : lc ≤ 6) (hok : ivsOk xs = true) :
    Calls Try.prog 81 #[.pointer (some ⟨B, 0, none⟩), .int .i64 (i : Int), .int .i64 (k : Int)] w (IvV (othLo (row ms i) xs k xs.length) (othHi (row ms i) xs k xs.length) w) := by
  obtain ⟨b1, o1, ar, cr, rfl, hbl, hcr, _, _, hsr⟩ := hs.2 i hi
  obtain ⟨z, hz⟩ : ∃ z, z = row ms i := ⟨_, rfl⟩
  rw [← hz] at hcr hsr hr ⊢
  have HZE := Lib.hid hz
  clear hz
  subst hr
  have hx := ho.1
  have HO := Lib.hid ho
  have HX := Lib.hid hx
  have HOK := Lib.hid hok
  have hlt := hc.lt
  have hc0 := hc.c0
  have hc2 := hc.c2
  obtain ⟨lo, hlo⟩ : ∃ r, r = othLo z xs k xs.length := ⟨_, rfl⟩
  obtain ⟨hi2, hhi⟩ : ∃ r, r = othHi z xs k xs.length := ⟨_, rfl⟩
  rw [← hlo, ← hhi]
  have HLO := Lib.hid hlo
  have HHI := Lib.hid hhi
  have hrow := (hb.cell (p := ⟨b1, o1 + i, none⟩) hbl).trans hcr
  have hbl2 := Nat.lt_of_lt_of_le hbl hb.size
  have HZ : Hid (∀ j, j < z.length → ∃ b2 o2, ar = some ⟨b2, o2, none⟩ ∧ b2 < w.heap.size ∧ w.cell? ⟨b2, o2 + j, none⟩ = some (.int .i64 (z.getD j 0))) := Lib.hid (fun j hj => by
    rcases (hsr.below hb).2.2 with h0 | ⟨b2, o2, e, hb2, hcz⟩
    · omega
    · exact ⟨b2, o2, e, hb2, hcz j (by omega)⟩)
  obtain ⟨V, hV⟩ : ∃ V, V = (w.alloc (.cells #[.int .i64 0, .int .i64 0] 33)).alloc (.cells #[.int .i64 0, .int .i64 0] 33) := ⟨_, rfl⟩
  have HBV : Hid (Below w.heap.size w V) := Lib.hid (by rw [hV]; exact ((Below.refl _ _).alloc (Nat.le_refl _) _).alloc (by simp) _)
  have HR := Lib.hid (show PairAt V w.heap.size 0 0 by rw [hV]; exact (pair_new w 0 0 _).alloc _)
  have HP := Lib.hid (show PairAt V (w.heap.size + 1) 0 0 by rw [hV]; have h := pair_new (w.alloc (.cells #[.int .i64 0, .int .i64 0] 33)) 0 0 33; rw [World.size_alloc] at h; exact h)
  have hsz : V.heap.size = w.heap.size + 2 := by rw [hV]; simp
  obtain ⟨S, hS⟩ : ∃ S, S = w.heap.size := ⟨_, rfl⟩
  have p0 := HP.out.c0
  have p1 := HP.out.c1
  have q0 := HP.out.f0
  have q1 := HP.out.f1
  have hv0 := (HBV.out.cell (p := ⟨B, 0, none⟩) hlt).trans hc0
  have hvr := (HBV.out.cell (p := ⟨b1, o1 + i, none⟩) hbl2).trans hrow
  have ne0 : ¬ B = w.heap.size + 1 := by omega
  have ne1 : ¬ b1 = w.heap.size + 1 := by omega
  have i0 : (0 : Int) ≤ (i : Int) := by omega
  have i1 : (i : Int) < (len : Int) := by omega
  clear hlo hhi hsr hcr hs ho hok
  go_enter Try.func81, Try.ntmps81
  go_wp2_with fail
  rw [← hV]
  clear hV
  go_wp2_with fail
  go_loopw [19, 8, 9] (fun s19 _ _ wr => ∃ (j : Nat) (A C : Int), j ≤ z.length ∧ s19 = .int .i64 j ∧ Hid (A = othLo z xs k j ∧ C = othHi z xs k j) ∧ Hid (PairAt wr (w.heap.size + 1) A C) ∧ Hid (PairAt wr w.heap.size 0 0) ∧ Hid (Below w.heap.size w wr)) (fun s19 _ _ _ => z.length - (intOf s19).toNat)
  case atStart => exact ⟨0, 0, 0, Nat.zero_le _, rfl, Lib.hid ⟨rfl, rfl⟩, HP, HR, HBV⟩
  case round =>
    clear p0 p1 q0 q1 hv0 hvr HP HR HBV
    obtain ⟨j, A, C, hj, rfl, HAC, HP, HR, HB⟩ := hrel
    have hbd := oth_bound HOK.out k j (by rw [HX.out]; exact hj) (z := z)
    rw [← HAC.out.1, ← HAC.out.2] at hbd
    have p0 := HP.out.c0
    have p1 := HP.out.c1
    have q0 := HP.out.f0
    have q1 := HP.out.f1
    have hv0 := (HB.out.cell (p := ⟨B, 0, none⟩) hlt).trans hc0
    have hv2 := (HB.out.cell (p := ⟨B, 2, none⟩) hlt).trans hc2
    by_cases hlj : j < z.length
    · obtain ⟨b2, o2, rfl, hb2, hcz⟩ := HZ.out j hlj
      have hzz := (HB.out.cell (p := ⟨b2, o2 + j, none⟩) hb2).trans hcz
      obtain ⟨c, hcx⟩ : ∃ c, c = z.getD j 0 := ⟨_, rfl⟩
      rw [← hcx] at hzz
      have HC := Lib.hid hcx
      have jz : (j : Int) < (z.length : Int) := by omega
      have jz0 : (0 : Int) ≤ (j : Int) := by omega
      clear hcx hcz
      by_cases hc1 : c = 1
      · by_cases hjk : j = k
        · have HN := Lib.hid (oth_skip (z := z) (xs := xs) (k := k) (i := j) (fun h => h.1 hjk))
          subst hjk hc1
          go_wp2
          go_roundw
          case rel => exact ⟨j + 1, A, C, by omega, by go_num, Lib.hid ⟨by rw [HN.out.1]; exact HAC.out.1, by rw [HN.out.2]; exact HAC.out.2⟩, HP, HR, HB⟩
          case measure => simp [intOf]; omega
        · have hjk2 : ¬ (j : Int) = (k : Int) := by omega
          have HN := Lib.hid (oth_next (z := z) (xs := xs) (k := k) (i := j) ⟨hjk, by rw [← HC.out]; exact hc1⟩)
          subst hc1
          obtain ⟨x0, x1, xf⟩ := (HO.out.below HB.out).spotAt j hlj
          obtain ⟨u, v, huv⟩ : ∃ u v, iv xs j = (u, v) := ⟨_, _, rfl⟩
          have hub := ivsOk_true.1 HOK.out j (by rw [HX.out]; exact hlj)
          rw [huv] at hub
          simp only at hub
          have huv' : xs.getD j (0, 0) = (u, v) := huv
          rw [huv'] at x0 x1
          have HUV := Lib.hid huv
          have HUV2 := Lib.hid huv'
          obtain ⟨A2, hA2⟩ : ∃ A2, A2 = A + u := ⟨_, rfl⟩
          obtain ⟨C2, hC2⟩ : ∃ C2, C2 = C + v := ⟨_, rfl⟩
          have w1 : IntKind.i64.wrap (A + u) = A2 := (IntWalk.i64_in _ (by omega)).trans hA2.symm
          have w2 : IntKind.i64.wrap (C + v) = C2 := (IntWalk.i64_in _ (by omega)).trans hC2.symm
          have HN2 : Hid (A2 = othLo z xs k (j + 1) ∧ C2 = othHi z xs k (j + 1)) := Lib.hid ⟨by rw [HN.out.1, HUV.out, hA2, HAC.out.1], by rw [HN.out.2, HUV.out, hC2, HAC.out.2]⟩
          have ng : ¬ g = w.heap.size + 1 := by have := HO.out.2.2.1; omega
          clear hA2 hC2 hbd hub xf huv huv'
          go_wp2_with fail
          go_still_tail 12, (by kernel_rfl)
          change wpList _ _ _ _ _ wr.drew
          obtain ⟨V2, hV2⟩ : ∃ V2, V2 = wr.drew := ⟨_, rfl⟩
          have hb2' : Below wr.heap.size wr V2 := by rw [hV2]; exact (Below.refl _ _).drew
          rw [← hV2]
          have HP2 := Lib.hid (HP.out.below hb2')
          have HR2 := Lib.hid (HR.out.below hb2')
          have HB2 := Lib.hid (below_up HB.out hb2' (Nat.le_refl _))
          obtain ⟨x0, x1, xf⟩ := (HO.out.below HB2.out).spotAt j hlj
          rw [HUV2.out] at x0 x1
          have hv2 := (HB2.out.cell (p := ⟨B, 2, none⟩) hlt).trans hc2
          have p0 := HP2.out.c0
          have q0 := HP2.out.f0
          clear xf hV2 hb2' HP HR HB
          go_wp2_with fail
          obtain ⟨V3, hV3⟩ : ∃ V3, V3 = V2.setCell ⟨w.heap.size + 1, 0, none⟩ (.int .i64 A2) := ⟨_, rfl⟩
          have HP3 : Hid (PairAt V3 (w.heap.size + 1) A2 C) := Lib.hid (by rw [hV3]; exact HP2.out.set0 A2)
          have HR3 : Hid (PairAt V3 w.heap.size 0 0) := Lib.hid (by rw [hV3]; exact HR2.out.set _ (by omega))
          have HB3 : Hid (Below w.heap.size w V3) := Lib.hid (by rw [hV3]; exact HB2.out.setCell (by exact Nat.le_succ _) _)
          rw [← hV3]
          obtain ⟨x0, x1, xf⟩ := (HO.out.below HB3.out).spotAt j hlj
          rw [HUV2.out] at x0 x1
          have hv2 := (HB3.out.cell (p := ⟨B, 2, none⟩) hlt).trans hc2
          have p1 := HP3.out.c1
          have q1 := HP3.out.f1
          clear xf hV3 HP2 HR2 HB2
          go_still_tail 12, (by kernel_rfl)
          change wpList _ _ _ _ _ V3.drew
          obtain ⟨V4, hV4⟩ : ∃ V4, V4 = V3.drew := ⟨_, rfl⟩
          have hb4' : Below V3.heap.size V3 V4 := by rw [hV4]; exact (Below.refl _ _).drew
          rw [← hV4]
          have HP4 := Lib.hid (HP3.out.below hb4')
          have HR4 := Lib.hid (HR3.out.below hb4')
          have HB4 := Lib.hid (below_up HB3.out hb4' (Nat.le_refl _))
          obtain ⟨x0, x1, xf⟩ := (HO.out.below HB4.out).spotAt j hlj
          rw [HUV2.out] at x0 x1
          have hv2 := (HB4.out.cell (p := ⟨B, 2, none⟩) hlt).trans hc2
          have p1 := HP4.out.c1
          have q1 := HP4.out.f1
          clear xf hV4 hb4' HP3 HR3 HB3
          go_wp2
          go_roundw
          case rel => exact ⟨j + 1, A2, C2, by omega, by go_num, HN2, Lib.hid (HP4.out.set1 C2), Lib.hid (HR4.out.set _ (by omega)), Lib.hid (HB4.out.setCell (by exact Nat.le_succ _) _)⟩
          case measure => simp [intOf]; omega
      · have HN := Lib.hid (oth_skip (z := z) (xs := xs) (k := k) (i := j) (fun h => hc1 (by rw [HC.out]; exact h.2)))
        have hc2 : (c == 1) = false := by simp [hc1]
        go_wp2
        go_roundw
        case rel => exact ⟨j + 1, A, C, by omega, by go_num, Lib.hid ⟨by rw [HN.out.1]; exact HAC.out.1, by rw [HN.out.2]; exact HAC.out.2⟩, HP, HR, HB⟩
        case measure => simp [intOf]; omega
    · obtain rfl : j = z.length := by omega
      have HE : Hid (lo = A ∧ hi2 = C) := Lib.hid ⟨by rw [HLO.out, HX.out]; exact HAC.out.1.symm, by rw [HHI.out, HX.out]; exact HAC.out.2.symm⟩
      have r0 := HR.out.c0
      have r1 := HR.out.c1
      have s0 := HR.out.f0
      have s1 := HR.out.f1
      clear hbd
      go_wp2
      refine bodyPost_ret (v := .agg #[.int .i64 A, .int .i64 C]) (by simp [results, Try.results81, go_sem, r0, r1]) rfl ⟨by rw [HE.out.1, HE.out.2], ?_⟩
      repeat (first | exact HB.out | refine Below.setCell ?_ (by exact Nat.le_refl _) _)
def bv (ws : List Bool) : List Value := ws.map Value.bool
theorem bv_at {ws : List Bool} {j : Nat} (h : j < ws.length) : (bv ws)[j]? = some (.bool (wt ws j)) := by simp [bv, wt, List.getD, h]
theorem bv_set (ws : List Bool) (j : Nat) (b : Bool) : (bv ws).set j (.bool b) = bv (ws.set j b) := by simp [bv, List.map_set]
theorem moved_one {L H h : Nat} {w w' : World} (hm : Moved h (h + 1) w w') (h1 : L ≤ h) (h2 : h < H) : Moved L H w w' := ⟨hm.os, hm.tape, hm.output, hm.size, fun k hk hne => hm.block k hk (by omega)⟩
set_option maxRecDepth 20000 in
set_option maxHeartbeats 3200000 in
theorem wakeP_any (W w : World) (B : Nat) (a : Option Addr) (len cap : Nat) (b : Option Addr) (lb cb g lc cc h ld cd : Nat) (ms : List (List Int)) (ws : List Bool) (n k : Nat) (hl : len ≤ 12) (hb : Below W.heap.size W w) (hs : SeesM W a len ms) (hc : NwC w B a len cap b lb cb g lc cc h ld cd)
    (ho : OwnG 4 w h (h + 1) (some ⟨h, 0, none⟩) ld cd (bv ws)) (hld : ld = len) (hB : B ≠ h) (hW : W.heap.size ≤ h) (hr : ∀ i, i < len → (row ms i).length = n) (hk : k < n) :
    Calls Try.prog 83 #[.pointer (some ⟨B, 0, none⟩), .int .i64 (k : Int)] w fun e w' => e = .returned (.tuple #[]) ∧ OwnG 4 w' h (h + 1) (some ⟨h, 0, none⟩) ld cd (bv (wakeV ms k ws len)) ∧ Moved h (h + 1) w w' := by
  have HS := Lib.hid hs
  have HR := Lib.hid hr
  have HW := Lib.hid hb
  have HO := Lib.hid ho
  have hwl : ws.length = len := by have := ho.1; simp [bv] at this; omega
  have HWL := Lib.hid hwl
  have hlt := hc.lt
  have hc0 := hc.c0
  have HC := Lib.hid hc
  subst hld
  have i0k : (0 : Int) ≤ (k : Int) := by omega
  clear hs hr ho hwl hb
  go_enter Try.func83, Try.ntmps83
  go_wp2
  go_loopw [11, 4, 5] (fun s11 _ _ wr => ∃ i : Nat, i ≤ ld ∧ s11 = .int .i64 i ∧ Hid (OwnG 4 wr h (h + 1) (some ⟨h, 0, none⟩) ld cd (bv (wakeV ms k ws i))) ∧ Hid (Moved h (h + 1) w wr)) (fun s11 _ _ _ => ld - (intOf s11).toNat)
  case atStart => exact ⟨0, Nat.zero_le _, rfl, HO, Lib.hid (Moved.refl _ _ _)⟩
  case round =>
    clear HO
    obtain ⟨i, hi, rfl, HO, HM⟩ := hrel
    have HBW : Hid (Below W.heap.size W wr) := Lib.hid (below_moved HW.out HM.out (Nat.le_refl _) hW)
    by_cases hlt2 : i < ld
    · obtain ⟨b1, o1, ar, cr, rfl, hbl, hcr, _, _, hsr⟩ := HS.out.2 i hlt2
      have hrow := (HBW.out.cell (p := ⟨b1, o1 + i, none⟩) hbl).trans hcr
      obtain ⟨z, hz⟩ : ∃ z, z = row ms i := ⟨_, rfl⟩
      have hzl : z.length = n := by rw [hz]; exact HR.out i hlt2
      rw [← hz] at hrow hsr
      obtain ⟨b2, o2, rfl, hb2, hcz⟩ : ∃ b2 o2, ar = some ⟨b2, o2, none⟩ ∧ b2 < W.heap.size ∧ W.cell? ⟨b2, o2 + k, none⟩ = some (.int .i64 (z.getD k 0)) := by
        rcases hsr.2.2 with h0 | ⟨b2, o2, e, hb2, hcz⟩
        · omega
        · exact ⟨b2, o2, e, hb2, hcz k (by omega)⟩
      have hzz := (HBW.out.cell (p := ⟨b2, o2 + k, none⟩) hb2).trans hcz
      obtain ⟨c, hcx⟩ : ∃ c, c = z.getD k 0 := ⟨_, rfl⟩
      rw [← hcx] at hzz
      have HX : Hid (c = (row ms i).getD k 0) := Lib.hid (by rw [← hz]; exact hcx)
      have jz : (k : Int) < (z.length : Int) := by omega
      clear hz hzl hcx hcz hsr hcr
      by_cases hc1 : c = 1
      · have HN : Hid (wakeV ms k ws (i + 1) = (wakeV ms k ws i).set i true) := Lib.hid (by simp only [wakeV]; rw [if_pos (by rw [← HX.out]; exact hc1)])
        have hq := HC.out.moved HM.out (by omega)
        have hc3 := hq.c3
        obtain ⟨hx, hfz⟩ := HO.out.cells i hlt2
        rw [bv_at (by rw [wake_len, HWL.out]; exact hlt2)] at hx
        have HST := Lib.hid (HO.out.stored i (.bool true) rfl)
        have i0 : (0 : Int) ≤ (i : Int) := by omega
        have i1 : (i : Int) < (ld : Int) := by omega
        subst hc1
        clear hq
        go_wp2
        go_roundw
        case rel => exact ⟨i + 1, by omega, by go_num, Lib.hid (by rw [HN.out, ← bv_set]; exact HST.out.1), Lib.hid (HM.out.trans HST.out.2)⟩
        case measure => simp [intOf]; omega
      · have HN : Hid (wakeV ms k ws (i + 1) = wakeV ms k ws i) := Lib.hid (by simp only [wakeV]; rw [if_neg (by rw [← HX.out]; exact hc1)])
        have hc2 : (c == 1) = false := by simp [hc1]
        go_wp2
        go_roundw
        case rel => exact ⟨i + 1, by omega, by go_num, Lib.hid (by rw [HN.out]; exact HO.out), HM⟩
        case measure => simp [intOf]; omega
    · obtain rfl : i = ld := by omega
      go_wp2
      exact bodyPost_end (results_none rfl _ _ _) rfl ⟨rfl, HO.out, HM.out⟩
end Go.Proofs.Ythcinjlghhfhmaa
