/- The laws' sum of products. -/
import Derived.Test.YtgcgdgbogamlnaaDotS
namespace Go.Proofs.Ytgcgdgbogamlnaa
open Go.RowKit
set_option maxRecDepth 20000 in
set_option maxHeartbeats 3200000 in
theorem rowSum_any (W : World) (b : Option Addr) (lb cb : Nat) (z : List Int) (a : Option Addr) (len cap : Nat) (xs : List (Int × Int)) (hlb : lb ≤ 1073741824) (hl : len ≤ 1073741824) (hs : Sees .i64 W b lb z) (hs2 : SeesR W a len xs) (r : Option (Int × Int)) (hr : r = dotR z xs (min lb len)) :
    Calls Try.prog 19 #[.slice b lb cb, .slice a len cap] W (RatRes (dN r) (dD r) r.isSome W) := by
  have HZ := Lib.hid hs
  have HX := Lib.hid hs2
  have HR := Lib.hid hr
  clear hs hs2 hr
  go_enter Try.func19, Try.ntmps19
  go_wp2_with fail
  go_loopw [7, 8, 9, 10, 11] (fun i _ _ _ _ wr => ∃ (k : Nat) (s t : Int), k ≤ lb ∧ k ≤ len ∧ i = .int .i64 k ∧ Hid (dotR z xs k = some (s, t)) ∧ Hid (IsI64 s ∧ IsI64 t) ∧ PairAt wr W.heap.size 0 0 ∧ PairAt wr (W.heap.size + 1) s t ∧ Below W.heap.size W wr) (fun i _ _ _ _ _ => lb - (intOf i).toNat)
  case atStart =>
    refine ⟨0, 0, 1, Nat.zero_le _, Nat.zero_le _, rfl, Lib.hid rfl, Lib.hid ⟨⟨by decide, by decide⟩, ⟨by decide, by decide⟩⟩, (pair_new W 0 0 34).alloc _, ?_, (((Below.refl _ _).alloc (Nat.le_refl _) _).alloc (by simp) _)⟩
    have h := pair_new (W.alloc (.cells #[.int .i64 0, .int .i64 0] 34)) 0 1 34
    rw [World.size_alloc] at h
    exact h
  case round =>
    obtain ⟨k, s, t, hk1, hk2, rfl, HDK, HI, hpr, hps, hb⟩ := hrel
    have HPR := Lib.hid hpr
    have HPS := Lib.hid hps
    have HB := Lib.hid hb
    have hsz := hb.size
    by_cases hlt1 : k < lb
    · by_cases hlt2 : k < len
      · rcases HZ.out.2.2 with h0 | ⟨b1, o1, rfl, hb10, hc1⟩
        · omega
        · rcases HX.out.2.2 with h0 | ⟨b2, o2, rfl, hb20, hc2⟩
          · omega
          · have hb1 := Nat.lt_of_lt_of_le hb10 hsz
            have hb2 := Nat.lt_of_lt_of_le hb20 hsz
            have hz0 := (hb.cell (p := ⟨b1, o1 + k, none⟩) hb10).trans (hc1 k hlt1)
            have hx0 := (hb.cell (p := ⟨b2, o2 + k * 2, none⟩) hb20).trans (hc2 k hlt2).1
            have hx1 := (hb.cell (p := ⟨b2, o2 + k * 2 + 1, none⟩) hb20).trans (hc2 k hlt2).2
            obtain ⟨n, hn⟩ : ∃ n, n = z.getD k 0 := ⟨_, rfl⟩
            have HNI : Hid (IsI64 n) := Lib.hid (by rw [hn]; exact bounds_i64 (HZ.out.2.1 _ (getD_mem (by rw [HZ.out.1]; exact hlt1))))
            rw [← hn] at hz0
            obtain ⟨c, d, hcd⟩ : ∃ c d, xs.getD k (0, 0) = (c, d) := ⟨_, _, rfl⟩
            have HFI : Hid (IsI64 c ∧ IsI64 d) := Lib.hid (by have h := HX.out.2.1 _ (getR_mem (l := xs) (j := k) (by rw [HX.out.1]; exact hlt2)); rw [hcd] at h; exact ⟨bounds_i64 h.1, bounds_i64 h.2⟩)
            rw [hcd] at hx0 hx1
            have HN : Hid (n = vec z k) := Lib.hid hn
            have HCD := Lib.hid hcd
            have HC0 := Lib.hid hz0
            have HC1 := Lib.hid hx0
            have HC2 := Lib.hid hx1
            obtain ⟨x, hx⟩ : ∃ x, x = mulN n 1 c d := ⟨_, rfl⟩
            obtain ⟨y, hy⟩ : ∃ y, y = mulD n 1 c d := ⟨_, rfl⟩
            obtain ⟨u, hu⟩ : ∃ u, u = mulOk n 1 c d := ⟨_, rfl⟩
            have HXI : Hid (IsI64 x ∧ IsI64 y) := Lib.hid (by rw [hx, hy]; exact mulN_i64 n 1 c d)
            have HXX := Lib.hid hx
            have HYY := Lib.hid hy
            have HU := Lib.hid hu
            obtain ⟨p, hp⟩ : ∃ p, p = addN s t x y := ⟨_, rfl⟩
            obtain ⟨q, hq⟩ : ∃ q, q = addD s t x y := ⟨_, rfl⟩
            obtain ⟨u2, hu2⟩ : ∃ u, u = addOk s t x y := ⟨_, rfl⟩
            have HI2 : Hid (IsI64 p ∧ IsI64 q) := Lib.hid (by rw [hp, hq]; exact addN_i64 s t x y)
            have HP := Lib.hid hp
            have HQ := Lib.hid hq
            have HU2 := Lib.hid hu2
            have i0k : (0 : Int) ≤ (k : Int) := by omega
            have i1k : (k : Int) < (lb : Int) := by omega
            have i2k : (k : Int) < (len : Int) := by omega
            have ne1 := World.new_ne wr _ hz0
            have ne2 := World.new_ne wr _ hx0
            have ne3 := World.new_ne wr _ hx1
            clear hc1 hc2 hn hcd hpr hps hb hb10 hb20 hx hy hu hp hq hu2
            cases u
            · have HE : Hid (r = none) := Lib.hid (HR.out.trans (dotR_stop1 HDK.out (by omega) HN.out HCD.out HU.out))
              go_wp2_with fail
              go_region_held3 (fun w' => w'.cell? ⟨b1, o1 + k, none⟩ = some (.int .i64 n) ∧ w'.cell? ⟨b2, o2 + k * 2, none⟩ = some (.int .i64 c) ∧ w'.cell? ⟨b2, o2 + k * 2 + 1, none⟩ = some (.int .i64 d)) (go_keep) (first
                | (go_at_call 62; refine (pMulV_any n 1 c d x y false _ HNI.out ⟨by decide, by decide⟩ HFI.out.1 HFI.out.2 HXX.out HYY.out HU.out).mono ?_; rintro e w4 ⟨rfl, hb4⟩; have G4 := Lib.hid (below_up (w0 := wr) (by first | exact (Below.refl _ _).drew | exact ((Below.refl wr.heap.size wr).alloc (Nat.le_refl _) _).drew) hb4 (Nat.le_refl _)); have k1 := (G4.out.cell (p := ⟨b1, o1 + k, none⟩) hb1).trans HC0.out; have k2 := (G4.out.cell (p := ⟨b2, o2 + k * 2, none⟩) hb2).trans HC1.out; have k3 := (G4.out.cell (p := ⟨b2, o2 + k * 2 + 1, none⟩) hb2).trans HC2.out; have P4 := Lib.hid (((pair_new wr 0 0 34).drew).below hb4); have q0 := P4.out.c0; have q1 := P4.out.c1; have qf0 := P4.out.f0; have qf1 := P4.out.f1; clear hb4)
                | (go_at_call 62; refine (pMulV_any n 1 c d x y false _ HNI.out ⟨by decide, by decide⟩ HFI.out.1 HFI.out.2 HXX.out HYY.out HU.out).mono ?_; rintro e w4 ⟨rfl, hb4⟩; have G4 := Lib.hid (below_up (w0 := wr) (by first | exact (Below.refl _ _).drew | exact ((Below.refl wr.heap.size wr).alloc (Nat.le_refl _) _).drew) hb4 (Nat.le_refl _)); have k1 := (G4.out.cell (p := ⟨b1, o1 + k, none⟩) hb1).trans HC0.out; have k2 := (G4.out.cell (p := ⟨b2, o2 + k * 2, none⟩) hb2).trans HC1.out; have k3 := (G4.out.cell (p := ⟨b2, o2 + k * 2 + 1, none⟩) hb2).trans HC2.out; clear hb4))
              · obtain ⟨V, hV⟩ : ∃ V, V = w4.alloc (.cells #[.int .i64 x, .int .i64 y] 34) := ⟨_, rfl⟩
                have HG : Hid (Below wr.heap.size wr V) := Lib.hid (by rw [hV]; exact G4.out.alloc G4.out.size _)
                have HY : Hid (PairAt V w4.heap.size x y) := Lib.hid (by rw [hV]; exact pair_new _ _ _ _)
                rw [← hV]
                clear hV
                have HS5 := Lib.hid (HPS.out.below HG.out)
                have HR5 := Lib.hid (HPR.out.below HG.out)
                have s0 := HS5.out.c0
                have s1 := HS5.out.c1
                have y0 := HY.out.c0
                have y1 := HY.out.c1
                go_wp2_with (go_at_call 57; refine (pAddV_any s t x y p q u2 _ HI.out.1 HI.out.2 HXI.out.1 HXI.out.2 HP.out HQ.out HU2.out).mono ?_; rintro e w6 ⟨rfl, hb6⟩; have HS6 := Lib.hid ((HS5.out.below hb6).alloc (.cells #[.int .i64 p, .int .i64 q] 34)); have HR6 := Lib.hid ((HR5.out.below hb6).alloc (.cells #[.int .i64 p, .int .i64 q] 34)); have HG6 := Lib.hid ((below_up HG.out hb6 (Nat.le_refl _)).alloc (below_up HG.out hb6 (Nat.le_refl _)).size (.cells #[.int .i64 p, .int .i64 q] 34)); have sc0 := HS6.out.c0; have sc1 := HS6.out.c1; have sf0 := HS6.out.f0; have sf1 := HS6.out.f1; have r0 := HR6.out.c0; have r1 := HR6.out.c1; have rf0 := HR6.out.f0; have rf1 := HR6.out.f1; clear hb6)
                refine bodyPost_ret (v := .tuple #[.agg #[.int .i64 0, .int .i64 0], .bool false]) (by simp [results, Try.results19, go_sem, r0, r1]) rfl ⟨by rw [HE.out]; rfl, below_put (HB.out.trans (HG6.out.mono hsz)) (Nat.le_refl _) _ _⟩
              · obtain ⟨V, hV⟩ : ∃ V, V = (w4.setCell ⟨wr.heap.size, 0, none⟩ (.int .i64 x)).setCell ⟨wr.heap.size, 1, none⟩ (.int .i64 y) := ⟨_, rfl⟩
                have HG : Hid (Below wr.heap.size wr V) := Lib.hid (by rw [hV]; exact below_put G4.out (Nat.le_refl _) _ _)
                have HY : Hid (PairAt V wr.heap.size x y) := Lib.hid (by rw [hV]; exact P4.out.put x y)
                rw [← hV]
                clear hV
                have HS5 := Lib.hid (HPS.out.below HG.out)
                have HR5 := Lib.hid (HPR.out.below HG.out)
                have s0 := HS5.out.c0
                have s1 := HS5.out.c1
                have y0 := HY.out.c0
                have y1 := HY.out.c1
                go_wp2_with (go_at_call 57; refine (pAddV_any s t x y p q u2 _ HI.out.1 HI.out.2 HXI.out.1 HXI.out.2 HP.out HQ.out HU2.out).mono ?_; rintro e w6 ⟨rfl, hb6⟩; have HS6 := Lib.hid ((HS5.out.below hb6).alloc (.cells #[.int .i64 p, .int .i64 q] 34)); have HR6 := Lib.hid ((HR5.out.below hb6).alloc (.cells #[.int .i64 p, .int .i64 q] 34)); have HG6 := Lib.hid ((below_up HG.out hb6 (Nat.le_refl _)).alloc (below_up HG.out hb6 (Nat.le_refl _)).size (.cells #[.int .i64 p, .int .i64 q] 34)); have sc0 := HS6.out.c0; have sc1 := HS6.out.c1; have sf0 := HS6.out.f0; have sf1 := HS6.out.f1; have r0 := HR6.out.c0; have r1 := HR6.out.c1; have rf0 := HR6.out.f0; have rf1 := HR6.out.f1; clear hb6)
                refine bodyPost_ret (v := .tuple #[.agg #[.int .i64 0, .int .i64 0], .bool false]) (by simp [results, Try.results19, go_sem, r0, r1]) rfl ⟨by rw [HE.out]; rfl, below_put (HB.out.trans (HG6.out.mono hsz)) (Nat.le_refl _) _ _⟩
            · cases u2
              · have HE : Hid (r = none) := Lib.hid (HR.out.trans (dotR_stop2 HDK.out (by omega) HN.out HCD.out HXX.out HYY.out HU2.out))
                go_wp2_with fail
                go_region_held3 (fun w' => w'.cell? ⟨b1, o1 + k, none⟩ = some (.int .i64 n) ∧ w'.cell? ⟨b2, o2 + k * 2, none⟩ = some (.int .i64 c) ∧ w'.cell? ⟨b2, o2 + k * 2 + 1, none⟩ = some (.int .i64 d)) (go_keep) (first
                  | (go_at_call 62; refine (pMulV_any n 1 c d x y true _ HNI.out ⟨by decide, by decide⟩ HFI.out.1 HFI.out.2 HXX.out HYY.out HU.out).mono ?_; rintro e w4 ⟨rfl, hb4⟩; have G4 := Lib.hid (below_up (w0 := wr) (by first | exact (Below.refl _ _).drew | exact ((Below.refl wr.heap.size wr).alloc (Nat.le_refl _) _).drew) hb4 (Nat.le_refl _)); have k1 := (G4.out.cell (p := ⟨b1, o1 + k, none⟩) hb1).trans HC0.out; have k2 := (G4.out.cell (p := ⟨b2, o2 + k * 2, none⟩) hb2).trans HC1.out; have k3 := (G4.out.cell (p := ⟨b2, o2 + k * 2 + 1, none⟩) hb2).trans HC2.out; have P4 := Lib.hid (((pair_new wr 0 0 34).drew).below hb4); have q0 := P4.out.c0; have q1 := P4.out.c1; have qf0 := P4.out.f0; have qf1 := P4.out.f1; clear hb4)
                  | (go_at_call 62; refine (pMulV_any n 1 c d x y true _ HNI.out ⟨by decide, by decide⟩ HFI.out.1 HFI.out.2 HXX.out HYY.out HU.out).mono ?_; rintro e w4 ⟨rfl, hb4⟩; have G4 := Lib.hid (below_up (w0 := wr) (by first | exact (Below.refl _ _).drew | exact ((Below.refl wr.heap.size wr).alloc (Nat.le_refl _) _).drew) hb4 (Nat.le_refl _)); have k1 := (G4.out.cell (p := ⟨b1, o1 + k, none⟩) hb1).trans HC0.out; have k2 := (G4.out.cell (p := ⟨b2, o2 + k * 2, none⟩) hb2).trans HC1.out; have k3 := (G4.out.cell (p := ⟨b2, o2 + k * 2 + 1, none⟩) hb2).trans HC2.out; clear hb4))
                · obtain ⟨V, hV⟩ : ∃ V, V = w4.alloc (.cells #[.int .i64 x, .int .i64 y] 34) := ⟨_, rfl⟩
                  have HG : Hid (Below wr.heap.size wr V) := Lib.hid (by rw [hV]; exact G4.out.alloc G4.out.size _)
                  have HY : Hid (PairAt V w4.heap.size x y) := Lib.hid (by rw [hV]; exact pair_new _ _ _ _)
                  rw [← hV]
                  clear hV
                  have HS5 := Lib.hid (HPS.out.below HG.out)
                  have HR5 := Lib.hid (HPR.out.below HG.out)
                  have s0 := HS5.out.c0
                  have s1 := HS5.out.c1
                  have y0 := HY.out.c0
                  have y1 := HY.out.c1
                  go_wp2_with (go_at_call 57; refine (pAddV_any s t x y p q false _ HI.out.1 HI.out.2 HXI.out.1 HXI.out.2 HP.out HQ.out HU2.out).mono ?_; rintro e w6 ⟨rfl, hb6⟩; have HS6 := Lib.hid ((HS5.out.below hb6).alloc (.cells #[.int .i64 p, .int .i64 q] 34)); have HR6 := Lib.hid ((HR5.out.below hb6).alloc (.cells #[.int .i64 p, .int .i64 q] 34)); have HG6 := Lib.hid ((below_up HG.out hb6 (Nat.le_refl _)).alloc (below_up HG.out hb6 (Nat.le_refl _)).size (.cells #[.int .i64 p, .int .i64 q] 34)); have sc0 := HS6.out.c0; have sc1 := HS6.out.c1; have sf0 := HS6.out.f0; have sf1 := HS6.out.f1; have r0 := HR6.out.c0; have r1 := HR6.out.c1; have rf0 := HR6.out.f0; have rf1 := HR6.out.f1; clear hb6)
                  refine bodyPost_ret (v := .tuple #[.agg #[.int .i64 0, .int .i64 0], .bool false]) (by simp [results, Try.results19, go_sem, r0, r1]) rfl ⟨by rw [HE.out]; rfl, below_put (HB.out.trans (HG6.out.mono hsz)) (Nat.le_refl _) _ _⟩
                · obtain ⟨V, hV⟩ : ∃ V, V = (w4.setCell ⟨wr.heap.size, 0, none⟩ (.int .i64 x)).setCell ⟨wr.heap.size, 1, none⟩ (.int .i64 y) := ⟨_, rfl⟩
                  have HG : Hid (Below wr.heap.size wr V) := Lib.hid (by rw [hV]; exact below_put G4.out (Nat.le_refl _) _ _)
                  have HY : Hid (PairAt V wr.heap.size x y) := Lib.hid (by rw [hV]; exact P4.out.put x y)
                  rw [← hV]
                  clear hV
                  have HS5 := Lib.hid (HPS.out.below HG.out)
                  have HR5 := Lib.hid (HPR.out.below HG.out)
                  have s0 := HS5.out.c0
                  have s1 := HS5.out.c1
                  have y0 := HY.out.c0
                  have y1 := HY.out.c1
                  go_wp2_with (go_at_call 57; refine (pAddV_any s t x y p q false _ HI.out.1 HI.out.2 HXI.out.1 HXI.out.2 HP.out HQ.out HU2.out).mono ?_; rintro e w6 ⟨rfl, hb6⟩; have HS6 := Lib.hid ((HS5.out.below hb6).alloc (.cells #[.int .i64 p, .int .i64 q] 34)); have HR6 := Lib.hid ((HR5.out.below hb6).alloc (.cells #[.int .i64 p, .int .i64 q] 34)); have HG6 := Lib.hid ((below_up HG.out hb6 (Nat.le_refl _)).alloc (below_up HG.out hb6 (Nat.le_refl _)).size (.cells #[.int .i64 p, .int .i64 q] 34)); have sc0 := HS6.out.c0; have sc1 := HS6.out.c1; have sf0 := HS6.out.f0; have sf1 := HS6.out.f1; have r0 := HR6.out.c0; have r1 := HR6.out.c1; have rf0 := HR6.out.f0; have rf1 := HR6.out.f1; clear hb6)
                  refine bodyPost_ret (v := .tuple #[.agg #[.int .i64 0, .int .i64 0], .bool false]) (by simp [results, Try.results19, go_sem, r0, r1]) rfl ⟨by rw [HE.out]; rfl, below_put (HB.out.trans (HG6.out.mono hsz)) (Nat.le_refl _) _ _⟩
              · have HD := Lib.hid (dotR_next HDK.out HN.out HCD.out HXX.out HYY.out HP.out HQ.out HU.out HU2.out)
                go_wp2_with fail
                go_region_held3 (fun w' => w'.cell? ⟨b1, o1 + k, none⟩ = some (.int .i64 n) ∧ w'.cell? ⟨b2, o2 + k * 2, none⟩ = some (.int .i64 c) ∧ w'.cell? ⟨b2, o2 + k * 2 + 1, none⟩ = some (.int .i64 d)) (go_keep) (first
                  | (go_at_call 62; refine (pMulV_any n 1 c d x y true _ HNI.out ⟨by decide, by decide⟩ HFI.out.1 HFI.out.2 HXX.out HYY.out HU.out).mono ?_; rintro e w4 ⟨rfl, hb4⟩; have G4 := Lib.hid (below_up (w0 := wr) (by first | exact (Below.refl _ _).drew | exact ((Below.refl wr.heap.size wr).alloc (Nat.le_refl _) _).drew) hb4 (Nat.le_refl _)); have k1 := (G4.out.cell (p := ⟨b1, o1 + k, none⟩) hb1).trans HC0.out; have k2 := (G4.out.cell (p := ⟨b2, o2 + k * 2, none⟩) hb2).trans HC1.out; have k3 := (G4.out.cell (p := ⟨b2, o2 + k * 2 + 1, none⟩) hb2).trans HC2.out; have P4 := Lib.hid (((pair_new wr 0 0 34).drew).below hb4); have q0 := P4.out.c0; have q1 := P4.out.c1; have qf0 := P4.out.f0; have qf1 := P4.out.f1; clear hb4)
                  | (go_at_call 62; refine (pMulV_any n 1 c d x y true _ HNI.out ⟨by decide, by decide⟩ HFI.out.1 HFI.out.2 HXX.out HYY.out HU.out).mono ?_; rintro e w4 ⟨rfl, hb4⟩; have G4 := Lib.hid (below_up (w0 := wr) (by first | exact (Below.refl _ _).drew | exact ((Below.refl wr.heap.size wr).alloc (Nat.le_refl _) _).drew) hb4 (Nat.le_refl _)); have k1 := (G4.out.cell (p := ⟨b1, o1 + k, none⟩) hb1).trans HC0.out; have k2 := (G4.out.cell (p := ⟨b2, o2 + k * 2, none⟩) hb2).trans HC1.out; have k3 := (G4.out.cell (p := ⟨b2, o2 + k * 2 + 1, none⟩) hb2).trans HC2.out; clear hb4))
                · obtain ⟨V, hV⟩ : ∃ V, V = w4.alloc (.cells #[.int .i64 x, .int .i64 y] 34) := ⟨_, rfl⟩
                  have HG : Hid (Below wr.heap.size wr V) := Lib.hid (by rw [hV]; exact G4.out.alloc G4.out.size _)
                  have HY : Hid (PairAt V w4.heap.size x y) := Lib.hid (by rw [hV]; exact pair_new _ _ _ _)
                  rw [← hV]
                  clear hV
                  have HS5 := Lib.hid (HPS.out.below HG.out)
                  have HR5 := Lib.hid (HPR.out.below HG.out)
                  have s0 := HS5.out.c0
                  have s1 := HS5.out.c1
                  have y0 := HY.out.c0
                  have y1 := HY.out.c1
                  go_wp2_with (go_at_call 57; refine (pAddV_any s t x y p q true _ HI.out.1 HI.out.2 HXI.out.1 HXI.out.2 HP.out HQ.out HU2.out).mono ?_; rintro e w6 ⟨rfl, hb6⟩; have HS6 := Lib.hid ((HS5.out.below hb6).alloc (.cells #[.int .i64 p, .int .i64 q] 34)); have HR6 := Lib.hid ((HR5.out.below hb6).alloc (.cells #[.int .i64 p, .int .i64 q] 34)); have HG6 := Lib.hid ((below_up HG.out hb6 (Nat.le_refl _)).alloc (below_up HG.out hb6 (Nat.le_refl _)).size (.cells #[.int .i64 p, .int .i64 q] 34)); have sc0 := HS6.out.c0; have sc1 := HS6.out.c1; have sf0 := HS6.out.f0; have sf1 := HS6.out.f1; have r0 := HR6.out.c0; have r1 := HR6.out.c1; have rf0 := HR6.out.f0; have rf1 := HR6.out.f1; clear hb6)
                  go_roundw
                  case rel => exact ⟨k + 1, p, q, by omega, by omega, by go_num, HD.out, HI2.out, (HR6.out.set _ (by omega)).set _ (by omega), HS6.out.put p q, below_put (HB.out.trans (HG6.out.mono hsz)) (Nat.le_succ _) _ _⟩
                  case measure => simp [intOf]; omega
                · obtain ⟨V, hV⟩ : ∃ V, V = (w4.setCell ⟨wr.heap.size, 0, none⟩ (.int .i64 x)).setCell ⟨wr.heap.size, 1, none⟩ (.int .i64 y) := ⟨_, rfl⟩
                  have HG : Hid (Below wr.heap.size wr V) := Lib.hid (by rw [hV]; exact below_put G4.out (Nat.le_refl _) _ _)
                  have HY : Hid (PairAt V wr.heap.size x y) := Lib.hid (by rw [hV]; exact P4.out.put x y)
                  rw [← hV]
                  clear hV
                  have HS5 := Lib.hid (HPS.out.below HG.out)
                  have HR5 := Lib.hid (HPR.out.below HG.out)
                  have s0 := HS5.out.c0
                  have s1 := HS5.out.c1
                  have y0 := HY.out.c0
                  have y1 := HY.out.c1
                  go_wp2_with (go_at_call 57; refine (pAddV_any s t x y p q true _ HI.out.1 HI.out.2 HXI.out.1 HXI.out.2 HP.out HQ.out HU2.out).mono ?_; rintro e w6 ⟨rfl, hb6⟩; have HS6 := Lib.hid ((HS5.out.below hb6).alloc (.cells #[.int .i64 p, .int .i64 q] 34)); have HR6 := Lib.hid ((HR5.out.below hb6).alloc (.cells #[.int .i64 p, .int .i64 q] 34)); have HG6 := Lib.hid ((below_up HG.out hb6 (Nat.le_refl _)).alloc (below_up HG.out hb6 (Nat.le_refl _)).size (.cells #[.int .i64 p, .int .i64 q] 34)); have sc0 := HS6.out.c0; have sc1 := HS6.out.c1; have sf0 := HS6.out.f0; have sf1 := HS6.out.f1; have r0 := HR6.out.c0; have r1 := HR6.out.c1; have rf0 := HR6.out.f0; have rf1 := HR6.out.f1; clear hb6)
                  go_roundw
                  case rel => exact ⟨k + 1, p, q, by omega, by omega, by go_num, HD.out, HI2.out, (HR6.out.set _ (by omega)).set _ (by omega), HS6.out.put p q, below_put (HB.out.trans (HG6.out.mono hsz)) (Nat.le_succ _) _ _⟩
                  case measure => simp [intOf]; omega
      · obtain rfl : k = len := by omega
        have HE : Hid (r = some (s, t)) := Lib.hid (by rw [HR.out, Nat.min_eq_right (by omega)]; exact HDK.out)
        have r0 := hpr.c0
        have r1 := hpr.c1
        have rf0 := hpr.f0
        have rf1 := hpr.f1
        have s0 := hps.c0
        have s1 := hps.c1
        clear hpr hps hb
        go_wp2
        refine bodyPost_ret (v := .tuple #[.agg #[.int .i64 s, .int .i64 t], .bool true]) (by simp [results, Try.results19, go_sem, r0, r1]) rfl ⟨by rw [HE.out]; rfl, below_put HB.out (Nat.le_refl _) _ _⟩
    · obtain rfl : k = lb := by omega
      have HE : Hid (r = some (s, t)) := Lib.hid (by rw [HR.out, Nat.min_eq_left (by omega)]; exact HDK.out)
      have r0 := hpr.c0
      have r1 := hpr.c1
      have rf0 := hpr.f0
      have rf1 := hpr.f1
      have s0 := hps.c0
      have s1 := hps.c1
      clear hpr hps hb
      go_wp2
      refine bodyPost_ret (v := .tuple #[.agg #[.int .i64 s, .int .i64 t], .bool true]) (by simp [results, Try.results19, go_sem, r0, r1]) rfl ⟨by rw [HE.out]; rfl, below_put HB.out (Nat.le_refl _) _ _⟩
end Go.Proofs.Ytgcgdgbogamlnaa
