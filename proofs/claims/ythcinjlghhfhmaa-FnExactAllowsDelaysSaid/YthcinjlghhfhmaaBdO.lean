/- NarrowOnce, the model's. -/
import Derived.Test.YthcinjlghhfhmaaBdN
namespace Go.Proofs.Ythcinjlghhfhmaa
open Go.RowKit
def onceL (ms : List (List Int)) (ls xs : List (Int × Int)) : List (Int × Int) := (onceR ms ls xs).getD []
def onceB (ms : List (List Int)) (ls xs : List (Int × Int)) : Bool := (onceR ms ls xs).isSome
theorem once_no {ms : List (List Int)} {ls xs : List (Int × Int)} (h : onceR ms ls xs = none) : onceL ms ls xs = [] ∧ onceB ms ls xs = false := by simp [onceL, onceB, h]
theorem once_yes {ms : List (List Int)} {ls xs q : List (Int × Int)} (h : onceR ms ls xs = some q) : onceL ms ls xs = q ∧ onceB ms ls xs = true := by simp [onceL, onceB, h]
theorem once_bnd {ms : List (List Int)} {ls xs : List (Int × Int)} (h : bndV ms ls xs.length = false) : onceR ms ls xs = none := by simp [onceR, h]
theorem once_ivs {ms : List (List Int)} {ls xs : List (Int × Int)} (h : ivsOk xs = false) : onceR ms ls xs = none := by simp [onceR, h]
theorem once_all {ms : List (List Int)} {ls xs : List (Int × Int)} (h1 : bndV ms ls xs.length = true) (h2 : ivsOk xs = true) : onceR ms ls xs = allR ms ls xs ms.length := by simp [onceR, h1, h2]
theorem cell_zero {z : List Int} {y : Int × Int} {k : Nat} {xs : List (Int × Int)} (h : z.getD k 0 = 0) : cellK z y k xs = some xs := by simp only [cellK, if_pos h]
theorem cell_out {z : List Int} {y : Int × Int} {k : Nat} {xs : List (Int × Int)} (h : ¬ z.getD k 0 = 0) (h2 : narHi z y xs k < narLo z y xs k) : cellK z y k xs = none := by simp only [cellK, if_neg h, if_pos h2]
theorem cell_in {z : List Int} {y : Int × Int} {k : Nat} {xs : List (Int × Int)} (h : ¬ z.getD k 0 = 0) (h2 : ¬ narHi z y xs k < narLo z y xs k) : cellK z y k xs = some (xs.set k (narLo z y xs k, narHi z y xs k)) := by simp only [cellK, if_neg h, if_neg h2]
set_option maxRecDepth 20000 in
set_option maxHeartbeats 6400000 in
theorem specOnce_any (W : World) (a : Option Addr) (len cap : Nat) (ms : List (List Int)) (b : Option Addr) (lb cb : Nat) (ls : List (Int × Int)) (c : Option Addr) (lx cx : Nat) (xs : List (Int × Int)) (hsm : SmallM ms) (hs : SeesM W a len ms) (hlb : lb ≤ 1073741824) (hsl : SeesV W b lb ls)
    (hlx : lx ≤ 1073741824) (hsx : SeesV W c lx xs) :
    Calls Try.prog 28 #[.slice a len cap, .slice b lb cb, .slice c lx cx] W (MadeVB (onceL ms ls xs) (onceB ms ls xs) W) := by
  obtain ⟨i0, hi, hz0, hz1, hz2⟩ := info_parts info_iv
  have HS := Lib.hid hs
  have HL := Lib.hid hs.1
  have HSL := Lib.hid hsl
  have HLL := Lib.hid hsl.1
  have HSX := Lib.hid hsx
  have HLX := Lib.hid hsx.1
  have HSM := Lib.hid hsm
  obtain ⟨rl, hrl⟩ : ∃ r, r = onceL ms ls xs := ⟨_, rfl⟩
  obtain ⟨rb, hrb⟩ : ∃ r, r = onceB ms ls xs := ⟨_, rfl⟩
  have HNO : Hid (onceR ms ls xs = none → rl = [] ∧ rb = false) := Lib.hid (fun h => ⟨hrl.trans (once_no h).1, hrb.trans (once_no h).2⟩)
  have HYES : Hid (∀ q, onceR ms ls xs = some q → rl = q ∧ rb = true) := Lib.hid (fun q h => ⟨hrl.trans (once_yes h).1, hrb.trans (once_yes h).2⟩)
  rw [← hrl, ← hrb]
  clear hs hsm hsl hsx hrl hrb
  cases hbd : bndV ms ls (lx : Int)
  · have HBD := Lib.hid hbd
    obtain ⟨rfl, rfl⟩ := HNO.out (once_bnd (by rw [HLX.out]; exact hbd))
    clear hbd
    go_enter Try.func28, Try.ntmps28
    go_wp2_with (go_at_call 18; refine (specBnd_any _ _ _ _ ms _ _ _ ls (lx : Int) HSM.out HS.out hlb HSL.out (by omega) (by omega)).mono ?_; rw [HBD.out]; rintro e w1 ⟨rfl, hb1⟩; have HB1 := Lib.hid hb1; clear hb1)
    go_ret2
    exact ⟨_, _, _, rfl, ownV_empty w1 _ HB1.out.size, HB1.out.alloc HB1.out.size _⟩
  · have HBD := Lib.hid hbd
    obtain ⟨hn1, hn6⟩ := (isMat_true (bnd_true hbd).2.2.1).1
    have hlbl : lb = len := by rw [← HLL.out, ← HL.out]; exact (bnd_true hbd).2.2.2
    have HROW : Hid (∀ i, i < len → (row ms i).length = lx ∧ ∀ k, k < lx → (row ms i).getD k 0 = 0 ∨ (row ms i).getD k 0 = 1) := Lib.hid (fun i hi => bnd_row hbd (by rw [HL.out]; exact hi))
    have HLOK : Hid (∀ i, i < len → 0 ≤ (iv ls i).1 ∧ (iv ls i).1 ≤ (iv ls i).2 ∧ (iv ls i).2 ≤ 100000) := Lib.hid (fun i hi => ivsOk_true.1 (bnd_true hbd).2.1 i (by rw [HLL.out, hlbl]; exact hi))
    have HALL : Hid (ivsOk xs = true → onceR ms ls xs = allR ms ls xs len) := Lib.hid (fun h => by rw [once_all (by rw [HLX.out]; exact hbd) h, HL.out])
    obtain ⟨b3, o3, rfl, hb30, _, _⟩ := HSX.out.at (k := 0) (by omega)
    subst hlbl
    clear hbd
    go_enter Try.func28, Try.ntmps28
    go_wp2_with (first
      | (go_at_call 18; refine (specBnd_any _ _ _ _ ms _ _ _ ls (lx : Int) HSM.out HS.out hlb HSL.out (by omega) (by omega)).mono ?_; rw [HBD.out]; rintro e w1 ⟨rfl, hb1⟩; have HB1 := Lib.hid hb1; clear hb1)
      | (at_builtin; refine wp_append_seesV rfl _ _ 25 rfl i0 Try.underlying25 hi hz0 hz1 hz2 _ _ _ _ rfl W.heap.size _ (ownV_empty w1 _ HB1.out.size) _ _ _ xs rfl ((HSX.out.below HB1.out).alloc _) (by unfold maxLen; omega) (by omega) (HB1.out.alloc HB1.out.size _).size ?_; intro a3 l3 c3 w3 hl3 ho3 hm3; obtain rfl : l3 = lx := (by omega); clear hl3; rw [List.nil_append] at ho3; have HO3 := Lib.hid ho3; have HB3 := Lib.hid (below_moved (HB1.out.alloc HB1.out.size _) hm3 (Nat.le_refl _) (Nat.le_refl _)); clear ho3 hm3))
    obtain ⟨g, rfl⟩ : ∃ g, a3 = some ⟨g, 0, none⟩ := by
      rcases HO3.out.spot with ⟨_, h0, _⟩ | ⟨g, h, _⟩
      · omega
      · exact ⟨g, h⟩
    go_loopw [9] (fun s wr => ∃ k : Nat, k ≤ l3 ∧ s = .int .i64 k ∧ Hid (∀ j, j < k → ivOk (iv xs j) = true) ∧ Below w3.heap.size w3 wr) (fun s _ => l3 - (intOf s).toNat)
    case atStart => exact ⟨0, Nat.zero_le _, rfl, Lib.hid (fun j hj => by omega), Below.refl _ _⟩
    case round =>
      obtain ⟨k, hk, rfl, HC, hb⟩ := hrel
      have HB := Lib.hid (below_up HB3.out hb (Nat.le_refl _))
      have HB4 := Lib.hid hb
      by_cases hkl : k < l3
      · have hkx : k < xs.length := by rw [HLX.out]; exact hkl
        obtain ⟨b4, o4, e4, hb4, hc0, hc1⟩ := HSX.out.at hkl
        cases e4
        have hw0 := (HB.out.cell (p := ⟨b3, o3 + k * 2, none⟩) hb4).trans hc0
        have hw1 := (HB.out.cell (p := ⟨b3, o3 + k * 2 + 1, none⟩) hb4).trans hc1
        obtain ⟨x, y, hxy⟩ : ∃ x y, iv xs k = (x, y) := ⟨_, _, rfl⟩
        rw [hxy] at hw0 hw1
        have HXY := Lib.hid hxy
        have HW0 := Lib.hid hw0
        clear hc0 hc1 hb hxy
        cases h1 : isV x y
        · have H1 := Lib.hid h1
          obtain ⟨rfl, rfl⟩ := HNO.out (once_ivs (ivsOk_no hkx (by rw [HXY.out]; unfold ivOk; rw [h1]; rfl)))
          clear h1
          go_wp2_with (go_at_call 43; refine (specIv_any _ _ _).mono ?_; rw [H1.out]; rintro e w' ⟨rfl, hbb⟩; have HB := Lib.hid (below_up HB.out hbb (Nat.le_refl _)); clear hbb)
          go_ret2
          exact ⟨_, _, _, rfl, ownV_empty _ _ HB.out.size, HB.out.alloc HB.out.size _⟩
        · have H1 := Lib.hid h1
          by_cases h2 : x < 0
          · obtain ⟨rfl, rfl⟩ := HNO.out (once_ivs (ivsOk_no hkx (by rw [HXY.out]; unfold ivOk; rw [h1]; simp; omega)))
            clear h1
            go_wp2_with (go_at_call 43; refine (specIv_any _ _ _).mono ?_; rw [H1.out]; rintro e w' ⟨rfl, hbb⟩; have hw0 := (hbb.cell (p := ⟨b3, o3 + k * 2, none⟩) (Nat.lt_of_lt_of_le hb4 HB.out.size)).trans HW0.out; have HB := Lib.hid (below_up HB.out hbb (Nat.le_refl _)); clear hbb)
            go_ret2
            exact ⟨_, _, _, rfl, ownV_empty _ _ HB.out.size, HB.out.alloc HB.out.size _⟩
          · have HO : Hid (ivOk (iv xs k) = true) := Lib.hid (by rw [HXY.out]; unfold ivOk; rw [h1]; simp; omega)
            clear h1
            go_wp2_with (go_at_call 43; refine (specIv_any _ _ _).mono ?_; rw [H1.out]; rintro e w' ⟨rfl, hbb⟩; have hw0 := (hbb.cell (p := ⟨b3, o3 + k * 2, none⟩) (Nat.lt_of_lt_of_le hb4 HB.out.size)).trans HW0.out; have HB4 := Lib.hid (below_up HB4.out hbb (Nat.le_refl _)); clear hbb)
            go_roundw
            case rel => exact ⟨k + 1, by omega, by go_num, Lib.hid (fun j hj => by rcases Nat.lt_or_eq_of_le (Nat.lt_succ_iff.1 hj) with h | h; exact HC.out j h; subst h; exact HO.out), HB4.out⟩
            case measure => simp [intOf]; omega
      · clear hb
        obtain rfl : k = l3 := by omega
        have hok : ivsOk xs = true := ivsOk_all (fun j hj => HC.out j (by rw [← HLX.out]; exact hj))
        have HALL := Lib.hid (HALL.out hok)
        have HOKX := Lib.hid hok
        have HO4 := Lib.hid (HO3.out.below HB4.out)
        obtain ⟨V4, rfl⟩ : ∃ V4, V4 = wr := ⟨_, rfl⟩
        have HSIZ := Lib.hid HB4.out.size
        clear HC hok
        go_wp2
        go_loopw [10, 11, 12] (fun s _ _ wr => ∃ (i : Nat) (q : List (Int × Int)), i ≤ lb ∧ s = .int .i64 i ∧ Hid (allR ms ls xs i = some q) ∧ Hid (OwnV wr W.heap.size w3.heap.size (some ⟨g, 0, none⟩) k c3 q) ∧ Hid (Below W.heap.size W wr)) (fun s _ _ _ => lb - (intOf s).toNat)
        case atStart => exact ⟨0, xs, Nat.zero_le _, rfl, Lib.hid rfl, HO4, HB⟩
        case round =>
          clear HB HO4
          obtain ⟨i, q, hi', rfl, HQ, HO, HB⟩ := hrel
          obtain ⟨Vr, rfl⟩ : ∃ Vr, Vr = wr := ⟨_, rfl⟩
          by_cases hlt : i < lb
          · have him : i < ms.length := by rw [HL.out]; exact hlt
            obtain ⟨b1, o1, ar, cr, rfl, hbl, hc, _, _, hsr⟩ := HS.out.2 i hlt
            obtain ⟨b2, o2, rfl, hb2, hy0, hy1⟩ := HSL.out.at hlt
            obtain ⟨z, hzs⟩ : ∃ z, z = row ms i := ⟨_, rfl⟩
            obtain ⟨y0, y1, hyy⟩ : ∃ y0 y1, iv ls i = (y0, y1) := ⟨_, _, rfl⟩
            have hyb := HLOK.out i hlt
            obtain ⟨hzl, hzb⟩ := HROW.out i hlt
            rw [hyy] at hy0 hy1 hyb
            simp only at hyb
            rw [← hzs] at hc hsr hzl hzb
            have HZ := Lib.hid hzs
            have HZB := Lib.hid hzb
            have HYY := Lib.hid hyy
            have HSR := Lib.hid hsr
            have HCW := Lib.hid hc
            have HY0 := Lib.hid hy0
            have HY1 := Lib.hid hy1
            have HNX : Hid (allR ms ls xs (i + 1) = rowK z (y0, y1) (some q) k) := Lib.hid (by rw [← HLX.out, hzs, ← hyy, ← HQ.out]; rfl)
            have HQOK : Hid (ivsOk q = true ∧ q.length = k) := Lib.hid ⟨(all_narrow HOKX.out _ _ HQ.out).2.1, HO.out.1⟩
            clear hc hsr hzs hyy hy0 hy1 hzb
            go_wp2
            go_loopw [11, 12] (fun s _ wr => ∃ (j : Nat) (p : List (Int × Int)), j ≤ k ∧ s = .int .i64 j ∧ Hid (rowK z (y0, y1) (some q) j = some p) ∧ Hid (OwnV wr W.heap.size w3.heap.size (some ⟨g, 0, none⟩) k c3 p) ∧ Hid (Below W.heap.size W wr)) (fun s _ _ => k - (intOf s).toNat)
            case atStart => exact ⟨0, q, Nat.zero_le _, rfl, Lib.hid rfl, HO, HB⟩
            case round =>
              clear HO HB
              obtain ⟨j, p, hj', rfl, HP, HO, HB⟩ := hrel
              obtain ⟨V, rfl⟩ : ∃ V, V = wr := ⟨_, rfl⟩
              by_cases hjk : j < k
              · have hcw := (HB.out.cell (p := ⟨b1, o1 + i, none⟩) hbl).trans HCW.out
                have hw0 := (HB.out.cell (p := ⟨b2, o2 + i * 2, none⟩) hb2).trans HY0.out
                have hw1 := (HB.out.cell (p := ⟨b2, o2 + i * 2 + 1, none⟩) hb2).trans HY1.out
                have hpn := row_narrow HQOK.out.1 j (by rw [HQOK.out.2]; omega) p HP.out
                have HPOK : Hid (ivsOk p = true ∧ p.length = k) := Lib.hid ⟨hpn.2.1, hpn.1.trans HQOK.out.2⟩
                obtain ⟨b5, o5, rfl, hb5, hcz⟩ : ∃ b off, ar = some ⟨b, off, none⟩ ∧ b < W.heap.size ∧ ∀ t, t < z.length → W.cell? ⟨b, off + t, none⟩ = some (.int .i64 (z.getD t 0)) := by
                  rcases HSR.out.2.2 with h0 | h1
                  · omega
                  · exact h1
                have hcc := (HB.out.cell (p := ⟨b5, o5 + j, none⟩) hb5).trans (hcz j (by omega))
                obtain ⟨x, hx⟩ : ∃ x, x = z.getD j 0 := ⟨_, rfl⟩
                rw [← hx] at hcc
                have HX := Lib.hid hx
                have HST : Hid (rowK z (y0, y1) (some q) (j + 1) = cellK z (y0, y1) j p) := Lib.hid (by simp only [rowK, HP.out]; rfl)
                clear hpn hcz hx
                by_cases hx0 : x = 0
                · have HE : Hid (rowK z (y0, y1) (some q) (j + 1) = some p) := Lib.hid (by rw [HST.out, cell_zero (by rw [← HX.out]; exact hx0)])
                  subst hx0
                  go_wp2
                  go_roundw
                  case rel => exact ⟨j + 1, p, by omega, by go_num, HE, HO, HB⟩
                  case measure => simp [intOf]; omega
                · have hxb : (x == 0) = false := by simp [hx0]
                  have hxz : ¬ z.getD j 0 = 0 := by rw [← HX.out]; exact hx0
                  have HXZ := Lib.hid hxz
                  obtain ⟨N, hN⟩ : ∃ n, n = narLo z (y0, y1) p j := ⟨_, rfl⟩
                  obtain ⟨D, hD⟩ : ∃ n, n = narHi z (y0, y1) p j := ⟨_, rfl⟩
                  have HN := Lib.hid hN
                  have HD := Lib.hid hD
                  have hbs := HB.out.size
                  have ne1 := World.new_ne V _ hcw
                  have ne2 := World.new_ne V _ hw0
                  have ne3 := World.new_ne V _ hw1
                  have i0i : (0 : Int) ≤ (i : Int) := by omega
                  have i1i : (i : Int) < (lb : Int) := by omega
                  clear hN hD hxz
                  have hzk : k ≤ z.length := by omega
                  have hk6 : k ≤ 6 := by omega
                  have hya : 0 ≤ y0 ∧ y0 ≤ 100000 := by omega
                  have hyb1 : 0 ≤ y1 ∧ y1 ≤ 100000 := by omega
                  have hbd : Below V.heap.size V V.drew := (Below.refl _ _).drew
                  have hba : Below V.heap.size V (V.alloc (.cells #[.int .i64 0, .int .i64 0] 33)).drew := ((Below.refl V.heap.size V).alloc (Nat.le_refl _) _).drew
                  have HSVd := Lib.hid ((HSR.out.below HB.out).below hbd)
                  have HOVd := Lib.hid (HO.out.sees.below hbd)
                  have HSVa := Lib.hid ((HSR.out.below HB.out).below hba)
                  have HOVa := Lib.hid (HO.out.sees.below hba)
                  have HBD := Lib.hid hbd
                  have HBA := Lib.hid hba
                  have hlk1 : b1 < V.heap.size := Nat.lt_of_lt_of_le hbl hbs
                  have hlk2 : b2 < V.heap.size := Nat.lt_of_lt_of_le hb2 hbs
                  have HLK := Lib.hid (And.intro hlk1 hlk2)
                  have HARG := Lib.hid (And.intro hzk (And.intro hk6 (And.intro hya hyb1)))
                  have HJK := Lib.hid hjk
                  have jz : j < z.length := by omega
                  have jz2 : (j : Int) < (z.length : Int) := by omega
                  have jz0 : (0 : Int) ≤ (j : Int) := by omega
                  clear hbd hba hlk1 hlk2 hzk hk6 hya hyb1 hn1 hn6 hzl hyb hi' hj' him hb30 hbl hb2 hb5 hxb hbs hlb hlx
                  go_wp2_with fail
                  go_cut [12] (CutV V N D)
                  case first =>
                    go_region_held3 (fun w' => w'.cell? ⟨b1, o1 + i, none⟩ = some (.slice (some ⟨b5, o5, none⟩) z.length cr) ∧ w'.cell? ⟨b2, o2 + i * 2, none⟩ = some (.int .i64 y0) ∧ w'.cell? ⟨b2, o2 + i * 2 + 1, none⟩ = some (.int .i64 y1)) (go_keep) (first
                      | (go_at_call 53; (with_reducible show Calls _ _ _ V.drew _); refine (specNarrow_any V.drew _ _ _ z y0 y1 _ _ _ p j HSVd.out HOVd.out HARG.out.1 HJK.out HARG.out.2.1 HPOK.out.1 HARG.out.2.2.1 HARG.out.2.2.2).mono ?_; rw [← HN.out, ← HD.out]; rintro e w4 ⟨rfl, hb4⟩; have G4 := Lib.hid (below_up HBD.out hb4 (Nat.le_refl _)); have k1 := (G4.out.cell (p := ⟨b1, o1 + i, none⟩) HLK.out.1).trans hcw; have k2 := (G4.out.cell (p := ⟨b2, o2 + i * 2, none⟩) HLK.out.2).trans hw0; have k3 := (G4.out.cell (p := ⟨b2, o2 + i * 2 + 1, none⟩) HLK.out.2).trans hw1; clear hb4)
                      | (go_at_call 53; (with_reducible show Calls _ _ _ (V.alloc (.cells #[.int .i64 0, .int .i64 0] 33)).drew _); refine (specNarrow_any _ _ _ _ z y0 y1 _ _ _ p j HSVa.out HOVa.out HARG.out.1 HJK.out HARG.out.2.1 HPOK.out.1 HARG.out.2.2.1 HARG.out.2.2.2).mono ?_; rw [← HN.out, ← HD.out]; rintro e w4 ⟨rfl, hb4⟩; have G4 := Lib.hid (below_up HBA.out hb4 (Nat.le_refl _)); have k1 := (G4.out.cell (p := ⟨b1, o1 + i, none⟩) HLK.out.1).trans hcw; have k2 := (G4.out.cell (p := ⟨b2, o2 + i * 2, none⟩) HLK.out.2).trans hw0; have k3 := (G4.out.cell (p := ⟨b2, o2 + i * 2 + 1, none⟩) HLK.out.2).trans hw1; have P4 := Lib.hid (((pair_new V 0 0 33).drew).below hb4); have y0c := P4.out.c0; have y1c := P4.out.c1; have yf0 := P4.out.f0; have yf1 := P4.out.f1; clear hb4))
                    all_goals go_wp2_with fail
                    all_goals go_meet
                    all_goals exact ⟨_, rfl, (by first | with_reducible exact pair_new _ _ _ _ | exact pair_putV P4.out _ _), (by repeat (first | exact G4.out | refine below_allocV ?_ (Nat.le_refl _) _ | refine Below.setCell ?_ (by exact Nat.le_refl _) _))⟩
                  case rest =>
                    obtain ⟨gy, rfl, hpy, hby⟩ := hcut
                    have HY := Lib.hid hpy
                    have y0c := hpy.c0
                    have y1c := hpy.c1
                    have HO5 := Lib.hid (HO.out.below hby)
                    have HB5 := Lib.hid (below_up HB.out hby (Nat.le_refl _))
                    clear hpy hby hcw hw0 hw1 ne1 ne2 ne3
                    by_cases hDN : D < N
                    · obtain ⟨rfl, rfl⟩ := HNO.out (by rw [HALL.out]; exact all_stop10 (i := i + 1) (by rw [HNX.out]; exact row_stop (k := j + 1) (by rw [HST.out]; exact cell_out HXZ.out (by rw [← HN.out, ← HD.out]; exact hDN)) k hjk) lb hlt)
                      go_wp2
                      go_ret2
                      exact ⟨_, _, _, rfl, ownV_empty _ _ HB5.out.size, HB5.out.alloc HB5.out.size _⟩
                    · have hci := cell_in HXZ.out (by rw [← HN.out, ← HD.out]; exact hDN)
                      have HPS : Hid (rowK z (y0, y1) (some q) (j + 1) = some (p.set j (N, D))) := Lib.hid (by rw [HST.out, hci, ← HN.out, ← HD.out])
                      have hbN := ivsOk_true.1 (cell_ok HPOK.out.1 (by rw [HPOK.out.2]; exact hjk) hci).1 j (by rw [List.length_set, HPOK.out.2]; exact hjk)
                      rw [iv_set_same (by rw [HPOK.out.2]; exact hjk), ← HN.out, ← HD.out] at hbN
                      have hwf : (Lit.int .i64 N).wf = true ∧ (Lit.int .i64 D).wf = true := ⟨WalkArith.wf_i64 (by omega), WalkArith.wf_i64 (by omega)⟩
                      have HSTO := Lib.hid (HO5.out.stored j (N, D) hwf)
                      obtain ⟨so0, so1, sof⟩ := HO5.out.spotAt j hjk
                      have sf0 := sof (j * 2)
                      have sf1 := sof (j * 2 + 1)
                      have hk6 := HARG.out.2.1
                      clear sof hci hwf hbN
                      go_wp2
                      go_roundw
                      case rel => exact ⟨j + 1, p.set j (N, D), by omega, by go_num, HPS, Lib.hid HSTO.out.1, Lib.hid (below_moved HB5.out HSTO.out.2 (Nat.le_refl _) (Nat.le_refl _))⟩
                      case measure => simp [intOf]; omega
              · obtain rfl : j = k := by omega
                go_wp2
                go_roundw
                case rel => exact ⟨i + 1, p, by omega, by go_num, Lib.hid (by rw [HNX.out]; exact HP.out), HO, HB⟩
                case measure => simp [intOf]; omega
          · obtain rfl : i = lb := by omega
            obtain ⟨rfl, rfl⟩ := HYES.out q (by rw [HALL.out]; exact HQ.out)
            go_wp2
            go_ret2
            exact ⟨_, _, _, rfl, HO.out.wide (Nat.le_refl _) HO.out.2.2.1 (Nat.le_refl _), HB.out⟩
end Go.Proofs.Ythcinjlghhfhmaa
