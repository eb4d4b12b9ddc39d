/- The model's elimination. -/
import Derived.Test.YtedkeobhcpbigaaClr
import Derived.Test.YtedkeobhcpbigaaHold
import Derived.Test.YtedkeobhcpbigaaMat
namespace Go.Proofs.Ytedkeobhcpbigaa
open Go.RowKit
/-- Rows whose elimination stays in range: q columns of small cells, n columns in all. -/
structure Fine (n q : Nat) (ms : List (List Int)) : Prop where
  q6 : q ≤ 6
  qn : q ≤ n
  n7 : n ≤ 7
  len : ms.length ≤ 12
  wid : ∀ i, i < ms.length → (row ms i).length = n
  small : ∀ i, i < ms.length → ∀ j, j < q → -2 ≤ vec (row ms i) j ∧ vec (row ms i) j ≤ 2
  fit : ∀ i, i < ms.length → ∀ j, -1000 ≤ vec (row ms i) j ∧ vec (row ms i) j ≤ 1000
theorem Fine.row_fit {n q : Nat} {ms : List (List Int)} (h : Fine n q ms) {s : List (List Int) × Nat} {k : Nat} (hi : InvL n q ms s k) (hk : k < q) {i : Nat} (hl : i < ms.length) : Fit 2000000000 (row s.1 i) := fun j => by
  have := inv_bound (N := 1000) hi hk h.q6 h.small (j := j) (fun i hi => h.fit i hi j) hl
  omega
theorem Fine.row_small {n q : Nat} {ms : List (List Int)} (h : Fine n q ms) {s : List (List Int) × Nat} {k : Nat} (hi : InvL n q ms s k) (hk : k < q) {i : Nat} (hl : i < ms.length) {j : Nat} (hj : j < q) : -1000000000 ≤ vec (row s.1 i) j ∧ vec (row s.1 i) j ≤ 1000000000 := by
  have := inv_bound (N := 2) hi hk h.q6 h.small (j := j) (fun i hi => h.small i hi j hj) hl
  omega
theorem Fine.inv {n q : Nat} {ms : List (List Int)} (h : Fine n q ms) {k : Nat} (hk : k ≤ q) : InvL n q ms (redL (ms.map tidyL) k) k := inv_red h.qn h.wid k hk
theorem Sees.setCell {k : IntKind} {w : World} {a : Option Addr} {len g j : Nat} {v : Value} {zs : List Int} (h : Sees k w a len zs) (hne : ∀ x, a = some x → x.block ≠ g) : Sees k (w.setCell ⟨g, j, none⟩ v) a len zs :=
  h.moved (lo := g) (hi := g + 1) ⟨rfl, rfl, rfl, by simp [World.setCell], fun k _ hne => Below.heap_setCell w _ v k (by simp; omega)⟩ (fun x hx => by have := hne x hx; omega)
theorem take_tidy {ms : List (List Int)} {i : Nat} (h : i < ms.length) : (ms.map tidyL).take i ++ [tidyL (row ms i)] = (ms.map tidyL).take (i + 1) := by
  rw [List.take_succ_eq_append_getElem (by simpa using h)]
  simp [row, List.getD, h]
theorem swap_all {Q : List Int → Prop} {R : List (List Int)} {r x k : Nat} (hR : R.length = k) (hr : r < k) (hx : x < k) (ht : tidyL (row R x) = row R x) (h : ∀ i, i < k → Q (row R i)) : ∀ u, u < k → Q (row (swapL R r x) u) := fun u hu => by
  by_cases h1 : u = r
  · subst h1
    rw [swapL_at (by omega), ht]
    exact h x hx
  · rw [swapL_off (by omega) h1]
    refine h _ ?_
    unfold swp
    split <;> (try split) <;> omega
set_option maxRecDepth 20000 in
set_option maxHeartbeats 1000000 in
theorem specReduce_any (W : World) (a : Option Addr) (len cap : Nat) (ms : List (List Int)) (n q : Nat) (hf : Fine n q ms) (hs : SeesM W a len ms) :
    Calls Try.prog 92 #[.slice a len cap, .int .i64 (q : Int)] W (SeenM (redL (ms.map tidyL) q).1 W) := by
  have HS := Lib.hid hs
  have HL := Lib.hid hs.1
  have HF := Lib.hid hf
  have hl : len ≤ 12 := by have := hf.len; have := hs.1; omega
  have hq6 : q ≤ 6 := hf.q6
  clear hs hf
  obtain ⟨i0, hi, hz0, hz1, hz2⟩ := info_parts info_row
  go_enter Try.func92, Try.ntmps92
  go_wp2_with fail
  go_loopw [5, 6] (fun v i wr => ∃ (k : Nat) (a' : Option Addr) (c' : Nat), k ≤ len ∧ i = .int .i64 k ∧ v = .slice a' k c' ∧ HoldM wr W.heap.size a' k c' ((ms.map tidyL).take k) ∧ Below W.heap.size W wr) (fun _ i _ => len - (intOf i).toNat)
  case atStart => exact ⟨0, _, _, Nat.zero_le _, rfl, rfl, hold_nil _, (Below.refl _ _).alloc (Nat.le_refl _) _⟩
  case round =>
    obtain ⟨k, a', c', hk, rfl, rfl, ho, hb⟩ := hrel
    have HO := Lib.hid ho
    have HB := Lib.hid hb
    have hsz := hb.size
    by_cases hlt : k < len
    · obtain ⟨b, off, ar, cr, rfl, hbl, hc, _, _, hsr⟩ := HS.out.2 k hlt
      have hcw := (hb.cell (p := ⟨b, off + k, none⟩) hbl).trans hc
      obtain ⟨zs, hzs⟩ : ∃ zs, zs = row ms k := ⟨_, rfl⟩
      rw [← hzs] at hcw hsr
      have hzl : zs.length ≤ 7 := by have h1 := HF.out.wid k (by rw [HL.out]; exact hlt); have h2 := HF.out.n7; rw [← hzs] at h1; omega
      have HZF : Hid (Fit 4000000000000000000 zs) := Lib.hid (fun j => by have := HF.out.fit k (by rw [HL.out]; exact hlt) j; rw [← hzs] at this; omega)
      have HN := Lib.hid (take_tidy (ms := ms) (i := k) (by rw [HL.out]; exact hlt))
      rw [← hzs] at HN
      have HSR := Lib.hid (hsr.below hb)
      clear hc hsr hzs ho hb
      go_wp2_with (first
        | (go_at_call 93; refine (specTidy_any _ ar zs.length cr zs (by omega) HSR.out HZF.out).mono ?_; rintro e w2 ⟨a2, l2, c2, rfl, ho2, hb2⟩; have hl2 := ho2.1; subst hl2; have HO2 := Lib.hid ho2; have HB2 := Lib.hid hb2; have hsz2 := hb2.size; clear ho2 hb2)
        | (at_builtin; refine wp_append_hold rfl _ _ 24 rfl i0 Try.underlying24 hi hz0 hz1 hz2 _ _ _ rfl w2.heap.size rfl _ W.heap.size ((HO.out.below HB2.out).below ((Below.refl _ _).alloc (Nat.le_refl _) _)) a2 c2 (tidyL zs) (by simp) (HO2.out.sees.alloc _) HO2.out.cap HO2.out.capMax (fun x hx => ⟨by have := HO2.out.2.2.2.2 x hx; simp; omega, fun y hy => by have h1 := (HO.out.outer hy).1; have h2 := HO2.out.2.2.2.2 x hx; omega⟩) (by omega) (by simp; omega) ?_; intro g4 c4 w4 ho4 hb4 _ _; have HO4 := Lib.hid ho4; have HB4 := Lib.hid hb4; clear ho4 hb4))
      go_roundw
      case rel => exact ⟨k + 1, _, _, by omega, by go_num, rfl, by have h := HO4.out; rw [HN.out] at h; exact h, ((below_up HB.out HB2.out (Nat.le_refl _)).alloc (by omega) _).trans HB4.out⟩
      case measure => simp [intOf]; omega
    · obtain rfl : k = len := by omega
      have HO0 : Hid (HoldM wr W.heap.size a' k c' (redL (ms.map tidyL) 0).1) := Lib.hid (by have h := ho; rw [List.take_of_length_le (by rw [List.length_map, HL.out]; exact Nat.le_refl _)] at h; exact h)
      clear ho hb HO
      go_wp2_with fail
      go_loopw [7, 8] (fun t i wr => ∃ (j r : Nat), j ≤ q ∧ i = .int .i64 j ∧ t = .int .i64 r ∧ Hid (r = (redL (ms.map tidyL) j).2) ∧ HoldM wr W.heap.size a' k c' (redL (ms.map tidyL) j).1 ∧ Below W.heap.size W wr) (fun _ i _ => q - (intOf i).toNat)
      case atStart => exact ⟨0, 0, Nat.zero_le _, rfl, rfl, Lib.hid rfl, HO0.out, HB.out⟩
      case round =>
        obtain ⟨j, r, hj, rfl, rfl, HR, ho, hb⟩ := hrel
        have HO := Lib.hid ho
        have HB := Lib.hid hb
        have hsz := hb.size
        clear ho hb
        by_cases hjq : j < q
        · have HI := Lib.hid (HF.out.inv (k := j) (by omega))
          have hrl : r ≤ k := by rw [HR.out, ← HL.out]; exact HI.out.rle
          have HLR : Hid ((redL (ms.map tidyL) j).1.length = k) := Lib.hid (by rw [HI.out.len, HL.out])
          have HW : Hid (∀ i, i < k → (row (redL (ms.map tidyL) j).1 i).length = n) := Lib.hid (fun i hi => HI.out.wid i (by rw [HL.out]; exact hi))
          have hjn : j < n := by have := HF.out.qn; omega
          have hn7 : n ≤ 7 := HF.out.n7
          have HFT : Hid (∀ i, i < k → Fit 2000000000 (row (redL (ms.map tidyL) j).1 i)) := Lib.hid (fun i hi => HF.out.row_fit HI.out hjq (by rw [HL.out]; exact hi))
          have HSM : Hid (∀ i, i < k → -1000000000 ≤ vec (row (redL (ms.map tidyL) j).1 i) j ∧ vec (row (redL (ms.map tidyL) j).1 i) j ≤ 1000000000) := Lib.hid (fun i hi => HF.out.row_small HI.out hjq (by rw [HL.out]; exact hi) hjq)
          have HST : Hid (redL (ms.map tidyL) (j + 1) = stepL j ((redL (ms.map tidyL) j).1, r)) := Lib.hid (by rw [HR.out]; rfl)
          have HTI : Hid (∀ i, i < k → tidyL (row (redL (ms.map tidyL) j).1 i) = row (redL (ms.map tidyL) j).1 i) := Lib.hid (fun i hi => (sim_self HI.out).2 i (by rw [HI.out.len, HL.out]; exact hi))
          obtain ⟨R, hR⟩ : ∃ R, R = (redL (ms.map tidyL) j).1 := ⟨_, rfl⟩
          rw [← hR] at HLR HW HFT HSM HST HO HTI
          clear hR HI
          obtain ⟨p1, p2, p3, p4⟩ := findP_spec (rows := R) (r := r) (k := j) (by rw [HLR.out]; exact hrl)
          obtain ⟨P, hP⟩ : ∃ P, P = findP R r j := ⟨_, rfl⟩
          rw [← hP] at p1 p2 p3 p4
          rw [HLR.out] at p2 p4
          have HP := Lib.hid hP
          have HPZ := Lib.hid p3
          have HPN := Lib.hid p4
          clear hP p3 p4
          go_wp2_with fail
          go_loop [9] (fun p => ∃ x : Nat, r ≤ x ∧ x ≤ P ∧ p = .int .i64 x) (fun p => k - (intOf p).toNat)
          case atStart => exact ⟨r, Nat.le_refl _, p1, rfl⟩
          case round =>
            obtain ⟨x, hx0, hx1, rfl⟩ := hrel
            by_cases hxP : x < P
            · obtain ⟨g, ax, cx, rfl, _, _, hcx, _, _, _, hsx, _⟩ := HO.out.spot (r := x) (by omega)
              have hlx := HW.out x (by omega)
              rw [hlx] at hcx hsx
              rcases hsx.2.2 with h0 | ⟨b2, o2, rfl, hb2, hc2⟩
              · omega
              · have hcc := hc2 j hjn
                rw [show (row R x).getD j 0 = 0 from HPZ.out x hx0 hxP] at hcc
                clear hsx hc2
                go_wp2
                go_round
                case rel => exact ⟨x + 1, by omega, by omega, by go_num⟩
                case measure => simp [intOf]; omega
            · obtain rfl : x = P := by omega
              by_cases hxk : x = k
              · have HNX : Hid (redL (ms.map tidyL) (j + 1) = (R, r)) := Lib.hid (by rw [HST.out]; exact stepL_pass (by show findP R r j = R.length; rw [← HP.out, HLR.out]; exact hxk))
                subst hxk
                go_wp2
                go_roundw
                case rel => exact ⟨j + 1, r, by omega, by go_num, rfl, Lib.hid (by rw [HNX.out]), by rw [HNX.out]; exact HO.out, HB.out⟩
                case measure => simp [intOf]; omega
              · have hne : vec (row R x) j ≠ 0 := HPN.out.resolve_left hxk
                have hxl : x < k := by omega
                have hrk : r < k := by omega
                have hsx := HO.out.spot hxl
                have hsr := HO.out.spot hrk
                obtain ⟨g, ax, cx, rfl, hlg, hgs, hcx, hfx, hx4, hx5, hsx, hx6⟩ := hsx
                obtain ⟨g', ar, cr, hg', _, _, hcr, hfr, hr4, hr5, hsr, hr6⟩ := hsr
                cases hg'
                have HX6 := Lib.hid hx6
                have HSX := Lib.hid hsx
                have HP1 := Lib.hid (HO.out.put hsr hr4 hr5 hr6 hxl)
                have hlx := HW.out x hxl
                have hlr := HW.out r hrk
                rcases hsx.2.2 with h0 | ⟨b2, o2, rfl, hb2, hc2⟩
                · omega
                · have hcc := hc2 j (by rw [hlx]; exact hjn)
                  obtain ⟨y, hy⟩ : ∃ y, y = vec (row R x) j := ⟨_, rfl⟩
                  rw [show (row R x).getD j 0 = y from hy.symm] at hcc
                  rw [← hy] at hne
                  have HTX := Lib.hid (HFT.out x hxl)
                  obtain ⟨zx, hzx⟩ : ∃ zx, zx = row R x := ⟨_, rfl⟩
                  rw [← hzx] at hcx HSX hlx HTX
                  obtain ⟨zr, hzr⟩ : ∃ zr, zr = row R r := ⟨_, rfl⟩
                  rw [← hzr] at hcr hlr HP1
                  have HZX := Lib.hid hzx
                  have HZR := Lib.hid hzr
                  clear hsr hsx hc2 hy hx6 hr6 hr4 hr5 hx4 hx5 hzx hzr
                  have HLX := Lib.hid hlx
                  have HLRR := Lib.hid hlr
                  rw [hlx] at hcx HSX
                  rw [hlr] at hcr HP1
                  have hn1 : n ≤ 1073741824 := by omega
                  clear hlx hlr
                  go_wp2_with (go_at_call 93; refine (specTidy_any _ _ n cx zx hn1 (HSX.out.setCell (fun x hx => (HX6.out x hx).2)) (HTX.out.up (by decide))).mono ?_; rintro e w2 ⟨a2, l2, c2, rfl, ho2, hb2⟩; have hl2 : n = l2 := (by have := ho2.1; rw [tidyL_len, HLX.out] at this; exact this); subst hl2; have HO2 := Lib.hid ho2; have HB2 := Lib.hid hb2; have HQ := Lib.hid (HP1.out.1.below hb2); obtain ⟨g', _, _, hg', _, _, hcr2, hfr2, _⟩ := HQ.out.spot hrk; cases hg'; have hsz2 := hb2.size; clear ho2 hb2)
                  have HQ2 : Hid (HoldM (w2.setCell ⟨g, r, none⟩ (.slice a2 n c2)) W.heap.size (some ⟨g, 0, none⟩) k c' (swapL R r x) ∧ Below W.heap.size W (w2.setCell ⟨g, r, none⟩ (.slice a2 n c2))) := Lib.hid (by
                    have hlen : (tidyL zx).length = n := by rw [tidyL_len, HLX.out]
                    have h := HQ.out.put (ar := a2) (cr := c2) (z := tidyL zx) (by rw [hlen]; exact HO2.out.sees) (by rw [hlen]; exact HO2.out.cap) HO2.out.capMax (fun x hx => ⟨⟨by have := (HO2.out.2.2.2.2 x hx).1; simp [World.setCell] at this; omega, (HO2.out.2.2.2.2 x hx).2⟩, by have := (HO2.out.2.2.2.2 x hx).1; simp [World.setCell] at this; omega⟩) hrk
                    rw [hlen, HZX.out, HZR.out] at h
                    exact ⟨h.1, (below_up (HB.out.trans HP1.out.2) HB2.out (Nat.le_refl _)).trans h.2⟩)
                  have HW1 : Hid (∀ u, u < k → (row (swapL R r x) u).length = n) := Lib.hid (swap_all (Q := fun z => z.length = n) HLR.out hrk hxl (HTI.out x hxl) HW.out)
                  have HFT1 : Hid (∀ u, u < k → Fit 2000000000 (row (swapL R r x) u)) := Lib.hid (swap_all HLR.out hrk hxl (HTI.out x hxl) HFT.out)
                  have HSM1 : Hid (∀ u, u < k → -1000000000 ≤ vec (row (swapL R r x) u) j ∧ vec (row (swapL R r x) u) j ≤ 1000000000) := Lib.hid (swap_all (Q := fun z => -1000000000 ≤ vec z j ∧ vec z j ≤ 1000000000) HLR.out hrk hxl (HTI.out x hxl) HSM.out)
                  have HNX : Hid (redL (ms.map tidyL) (j + 1) = (clrBy (fun z => clrRow z (row (swapL R r x) r) j) (swapL R r x) r k, r + 1)) := Lib.hid (by
                    rw [HST.out]
                    unfold stepL
                    simp only
                    rw [← HP.out, HLR.out, if_neg hxk])
                  have HLS : Hid ((swapL R r x).length = k) := Lib.hid (by rw [swapL_len, HLR.out])
                  obtain ⟨S, hS⟩ : ∃ S, S = swapL R r x := ⟨_, rfl⟩
                  rw [← hS] at HQ2 HW1 HFT1 HSM1 HNX HLS
                  clear hS HP1 HX6 HSX HTX HO2 HB2 HQ hcx hcr hcc hcr2 hfr2 hfx
                  go_loopw [11] (fun i wr2 => ∃ u : Nat, u ≤ k ∧ i = .int .i64 u ∧ HoldM wr2 W.heap.size (some ⟨g, 0, none⟩) k c' (clrBy (fun z => clrRow z (row S r) j) S r u) ∧ Below W.heap.size W wr2) (fun i _ => k - (intOf i).toNat)
                  case atStart => exact ⟨0, Nat.zero_le _, rfl, by rw [clrBy_zero]; exact HQ2.out.1, HQ2.out.2⟩
                  case round =>
                    obtain ⟨u, hu, rfl, ho, hb⟩ := hrel
                    have HO3 := Lib.hid ho
                    have HB3 := Lib.hid hb
                    have hsz3 := hb.size
                    clear ho hb
                    by_cases hul : u < k
                    · by_cases hur : u = r
                      · subst hur
                        go_wp2
                        go_roundw
                        case rel => exact ⟨u + 1, by omega, by go_num, by rw [← clrBy_same (by rw [HLS.out]; exact hul) (.inl rfl)]; exact HO3.out, HB3.out⟩
                        case measure => simp [intOf]; omega
                      · have hsu := HO3.out.spot hul
                        rw [clrBy_ahead (by rw [HLS.out]; exact hul) (Nat.le_refl _)] at hsu
                        obtain ⟨g', au, cu, hg', _, hgs3, hcu, hfu, _, _, hsu, _⟩ := hsu
                        cases hg'
                        have hlu := HW1.out u hul
                        rw [hlu] at hcu hsu
                        rcases hsu.2.2 with h0 | ⟨b3, o3, rfl, hb3, hc3⟩
                        · omega
                        · have hcc := hc3 j hjn
                          obtain ⟨y3, hy3⟩ : ∃ y, y = vec (row S u) j := ⟨_, rfl⟩
                          rw [show (row S u).getD j 0 = y3 from hy3.symm] at hcc
                          have HY3 := Lib.hid hy3
                          have HSU := Lib.hid hsu
                          clear hc3 hy3 hlu hsu
                          by_cases hy0 : y3 = 0
                          · have HSAME := Lib.hid (clrBy_same (f := fun z => clrRow z (row S r) j) (R := S) (r := r) (u := u) (by rw [HLS.out]; exact hul) (.inr (by show clrRow _ _ _ = _; unfold clrRow; rw [if_pos (by rw [← HY3.out]; exact hy0)])))
                            go_wp2
                            go_roundw
                            case rel => exact ⟨u + 1, by omega, by go_num, by rw [← HSAME.out]; exact HO3.out, HB3.out⟩
                            case measure => simp [intOf]; omega
                          · have HSET := Lib.hid (clrBy_set (f := fun z => clrRow z (row S r) j) (R := S) (r := r) (u := u) (by rw [HLS.out]; exact hul) hur)
                            have HCL : Hid (clrRow (row S u) (row S r) j = clearL (row S u) (row S r) j) := Lib.hid (by unfold clrRow; rw [if_neg (by rw [← HY3.out]; exact hy0)])
                            have hsr := HO3.out.spot hrk
                            rw [clrBy_pivot (by rw [HLS.out]; exact hrk)] at hsr
                            obtain ⟨g', ar3, cr3, hg', _, _, hcr3, _, _, _, hsr, _⟩ := hsr
                            cases hg'
                            rw [HW1.out r hrk] at hcr3 hsr
                            have HSR := Lib.hid hsr
                            have HGS := Lib.hid hgs3
                            have hn1 : n ≤ 1073741824 := by omega
                            have hj0 : (0 : Int) ≤ (j : Int) := Int.natCast_nonneg _
                            have hjni : (j : Int) < (n : Int) := by omega
                            have hu0 : (0 : Int) ≤ (u : Int) := Int.natCast_nonneg _
                            have hui : (u : Int) < (k : Int) := by omega
                            have hr0 : (0 : Int) ≤ (r : Int) := Int.natCast_nonneg _
                            have hri : (r : Int) < (k : Int) := by omega
                            have hurI : ((u : Int) != (r : Int)) = true := by simp; omega
                            have hy0b : (y3 != 0) = true := by simp [hy0]
                            clear hsr
                            go_wp2_with fail
                            go_region_with (first | (go_at_call 79; refine (specClear_any _ _ n cu ar3 cr3 (row S u) (row S r) j hn1 hjn (HSU.out.below (Below.refl _ _).drew) (HSR.out.below (Below.refl _ _).drew) (HFT1.out u hul) (HFT1.out r hrk) (HSM1.out u hul) (HSM1.out r hrk)).mono ?_; rintro e w5 ⟨a5, l5, c5, rfl, ho5, hb5⟩; have hl5 : n = l5 := (by have := ho5.1; rw [clearL_len, HW1.out u hul] at this; exact this); subst hl5; have HO5 := Lib.hid ho5; have HB5 := Lib.hid hb5; have HH5 := Lib.hid ((HO3.out.below (Below.refl _ _).drew).below hb5); obtain ⟨g', _, _, hg', _, _, hcu5, hfu5, _⟩ := HH5.out.spot hul; cases hg'; have hcr5 := (HB5.out.cell (p := ⟨g, r, none⟩) (by simpa using HGS.out)).trans (show wr.drew.cell? ⟨g, r, none⟩ = _ by simpa using hcr3); have hsz5 := hb5.size; clear ho5 hb5))
                            all_goals (go_wp2)
                            all_goals
                              go_roundw
                              case rel =>
                                have hlen : (clearL (row S u) (row S r) j).length = n := by rw [clearL_len, HW1.out u hul]
                                have h := HH5.out.put (ar := a5) (cr := c5) (z := clearL (row S u) (row S r) j) (by rw [hlen]; exact HO5.out.sees) (by rw [hlen]; exact HO5.out.cap) HO5.out.capMax (fun x hx => ⟨⟨by have h1 := (HO5.out.2.2.2.2 x hx).1; simp at h1; omega, (HO5.out.2.2.2.2 x hx).2⟩, by have h1 := (HO5.out.2.2.2.2 x hx).1; have h2 := HGS.out; simp at h1; omega⟩) hul
                                rw [hlen, ← HCL.out, HSET.out] at h
                                exact ⟨u + 1, by omega, by go_num, h.1, (below_up HB3.out.drew HB5.out (Nat.le_refl _)).trans h.2⟩
                              case measure => simp [intOf]; omega
                    · obtain rfl : u = k := by omega
                      go_wp2
                      go_roundw
                      case rel => exact ⟨j + 1, r + 1, by omega, by go_num, by go_num, Lib.hid (by rw [HNX.out]), by rw [HNX.out]; exact HO3.out, HB3.out⟩
                      case measure => simp [intOf]; omega
        · obtain rfl : j = q := by omega
          go_wp2
          go_ret
          exact ⟨_, _, _, rfl, HO.out.seesF, HO.out.cap, HO.out.capMax, HB.out⟩
end Go.Proofs.Ytedkeobhcpbigaa
/- The model's ReduceRows and RankOf. -/
namespace Go.Proofs.Ytedkeobhcpbigaa
open Go.RowKit
/-- The reduced rows; none if the rows are no matrix. -/
def rrV (ms : List (List Int)) (cols : Int) : List (List Int) := if isMat ms cols = true then rrL ms cols.toNat else []
theorem fine_of {ms : List (List Int)} {cols : Int} (h : isMat ms cols = true) : Fine cols.toNat cols.toNat ms := by
  obtain ⟨⟨h1, h2⟩, h3, h4⟩ := isMat_true h
  have key : ∀ i, i < ms.length → ∀ j, -2 ≤ vec (row ms i) j ∧ vec (row ms i) j ≤ 2 := fun i hi j => by
    rcases Nat.lt_or_ge j (row ms i).length with hj | hj
    · exact (h4 i hi).2 j hj
    · rw [vec_beyond hj]; decide
  exact ⟨by omega, Nat.le_refl _, by omega, h3, fun i hi => by have := (h4 i hi).1; omega, fun i hi j _ => key i hi j, fun i hi j => by have := key i hi j; omega⟩
theorem Fine.lead_lt {n : Nat} {ms : List (List Int)} (h : Fine n n ms) {i : Nat} (hi : i < (redL (ms.map tidyL) n).2) : leadL (row (redL (ms.map tidyL) n).1 i) < n := by
  have I := h.inv (Nat.le_refl n)
  obtain ⟨c, o, he⟩ := I.el
  have hw := I.wid i (by have := he.rs; omega)
  have hp := he.pos i hi
  have hc := he.ck i hi
  rcases Nat.lt_or_ge (leadL (row (redL (ms.map tidyL) n).1 i)) n with h1 | h1
  · exact h1
  · have := leadL_all (z := row (redL (ms.map tidyL) n).1 i) (by have := leadL_le (row (redL (ms.map tidyL) n).1 i); omega) (c i)
    omega
theorem Fine.lead_ge {n : Nat} {ms : List (List Int)} (h : Fine n n ms) {i : Nat} (hi : (redL (ms.map tidyL) n).2 ≤ i) (hl : i < ms.length) : leadL (row (redL (ms.map tidyL) n).1 i) = n := by
  have I := h.inv (Nat.le_refl n)
  obtain ⟨c, o, he⟩ := I.el
  have hw := I.wid i hl
  refine (leadL_zero fun j hj => he.below i hi hl j ?_).trans hw
  omega
theorem Fine.rle {n : Nat} {ms : List (List Int)} (h : Fine n n ms) : (redL (ms.map tidyL) n).2 ≤ ms.length := (h.inv (Nat.le_refl n)).rle
theorem Fine.rlen {n : Nat} {ms : List (List Int)} (h : Fine n n ms) : (redL (ms.map tidyL) n).1.length = ms.length := (h.inv (Nat.le_refl n)).len
theorem rrL_len {n : Nat} {ms : List (List Int)} (h : Fine n n ms) : (rrL ms n).length = (redL (ms.map tidyL) n).2 := by
  unfold rrL
  rw [List.length_take, h.rlen]
  have := h.rle
  omega
theorem take_next {R : List (List Int)} {u : Nat} (h : u < R.length) : R.take u ++ [row R u] = R.take (u + 1) := by
  rw [List.take_succ_eq_append_getElem h]
  simp [row, List.getD, h]
theorem rrV_len (ms : List (List Int)) (cols : Int) : (rrV ms cols).length ≤ 12 := by
  unfold rrV
  split
  · rename_i h
    have hf := fine_of h
    rw [rrL_len hf]
    have h1 := hf.rle
    have h2 := hf.len
    omega
  · simp
theorem tot_le {ms : List (List Int)} {n : Nat} (h : ∀ i, i < ms.length → (row ms i).length ≤ n) : ∀ k, k ≤ ms.length → tot ms k ≤ k * n
  | 0, _ => by simp [tot]
  | k + 1, hk => by
    have h1 := tot_le h k (by omega)
    have h2 := h k (by omega)
    rw [tot, Nat.succ_mul]
    omega
theorem rrL_row {n : Nat} {ms : List (List Int)} (h : Fine n n ms) {i : Nat} (hi : i < (rrL ms n).length) : row (rrL ms n) i = row (redL (ms.map tidyL) n).1 i := by
  rw [rrL_len h] at hi
  exact row_take hi
theorem rrL_wid {n : Nat} {ms : List (List Int)} (h : Fine n n ms) {i : Nat} (hi : i < (rrL ms n).length) : (row (rrL ms n) i).length = n := by
  rw [rrL_row h hi]
  rw [rrL_len h] at hi
  have := h.rle
  exact (h.inv (Nat.le_refl n)).wid i (by omega)
theorem rrV_small (ms : List (List Int)) (cols : Int) : SmallM (rrV ms cols) := by
  have hl := rrV_len ms cols
  unfold SmallM
  have key : tot (rrV ms cols) (rrV ms cols).length ≤ (rrV ms cols).length * 6 := by
    refine tot_le (fun i hi => ?_) _ (Nat.le_refl _)
    unfold rrV at hi ⊢
    split at hi
    · rename_i h
      rw [if_pos h, rrL_wid (fine_of h) hi]
      exact (fine_of h).q6
    · exact absurd hi (Nat.not_lt_zero _)
  omega
set_option maxRecDepth 20000 in
set_option maxHeartbeats 1600000 in
theorem specRR_any (W : World) (a : Option Addr) (len cap : Nat) (ms : List (List Int)) (cols : Int) (hsm : SmallM ms) (hn : -9223372036854775808 ≤ cols) (hm : cols ≤ 9223372036854775807) (hs : SeesM W a len ms) :
    Calls Try.prog 77 #[.slice a len cap, .int .i64 cols] W (SeenM (rrV ms cols) W) := by
  have HS := Lib.hid hs
  have HSM := Lib.hid hsm
  clear hs hsm
  obtain ⟨i0, hi, hz0, hz1, hz2⟩ := info_parts info_i64
  obtain ⟨i1, hi1, hz10, hz11, hz12⟩ := info_parts info_row
  cases hv : isMat ms cols
  · have HE : Hid (rrV ms cols = []) := Lib.hid (by unfold rrV; rw [hv]; rfl)
    have HV := Lib.hid hv
    clear hv
    go_enter Try.func77, Try.ntmps77
    go_wp2_with (go_at_call 54; refine (specIsM_any _ a len cap ms cols HSM.out hn hm (HS.out.below ((Below.refl _ _).alloc (Nat.le_refl _) _))).mono ?_; rw [HV.out]; rintro e w1 ⟨rfl, hb1⟩; have HB1 := Lib.hid hb1; clear hb1)
    go_ret
    rw [HE.out]
    exact ⟨_, _, _, rfl, ⟨rfl, fun r hr => by omega⟩, Nat.le_refl _, Nat.zero_le _, below_up ((Below.refl _ _).alloc (Nat.le_refl _) _) HB1.out (Nat.le_refl _)⟩
  · have HF := Lib.hid (fine_of hv)
    have hc := (isMat_true hv).1
    have HE : Hid (rrV ms cols = rrL ms cols.toNat) := Lib.hid (by unfold rrV; rw [if_pos hv])
    obtain ⟨n, hn2⟩ : ∃ n : Nat, n = cols.toNat := ⟨_, rfl⟩
    have hcn : cols = (n : Int) := by omega
    rw [← hn2] at HF HE
    subst hcn
    have hn1 : 1 ≤ n := by omega
    have hn6 : n ≤ 6 := by omega
    have HV := Lib.hid hv
    clear hv hn2 hc hn hm
    have HR := Lib.hid HF.out.rle
    have HRL := Lib.hid HF.out.rlen
    have HLT : Hid (∀ i, i < (redL (ms.map tidyL) n).2 → leadL (row (redL (ms.map tidyL) n).1 i) < n) := Lib.hid (fun i hi => HF.out.lead_lt hi)
    have HGE : Hid (∀ i, (redL (ms.map tidyL) n).2 ≤ i → i < ms.length → leadL (row (redL (ms.map tidyL) n).1 i) = n) := Lib.hid (fun i hi hl => HF.out.lead_ge hi hl)
    have HWD : Hid (∀ i, i < ms.length → (row (redL (ms.map tidyL) n).1 i).length = n) := Lib.hid (fun i hi => (HF.out.inv (Nat.le_refl n)).wid i hi)
    have HRR : Hid (rrL ms n = (redL (ms.map tidyL) n).1.take (redL (ms.map tidyL) n).2) := Lib.hid rfl
    have hl12 : ms.length ≤ 12 := HF.out.len
    obtain ⟨R, hR⟩ : ∃ R, R = (redL (ms.map tidyL) n).1 := ⟨_, rfl⟩
    obtain ⟨r, hr⟩ : ∃ r, r = (redL (ms.map tidyL) n).2 := ⟨_, rfl⟩
    obtain ⟨l, hl⟩ : ∃ l, l = ms.length := ⟨_, rfl⟩
    rw [← hR] at HRL HLT HGE HWD HRR
    rw [← hr] at HR HLT HGE HRR
    rw [← hl] at HR HRL HGE HWD hl12
    have hrl : r ≤ l := HR.out
    have hx : (redL (ms.map tidyL) n).1 = R := hR.symm
    have HX := Lib.hid hx
    clear hx hR hr hl
    go_enter Try.func77, Try.ntmps77
    go_wp2_with (first
      | (go_at_call 54; refine (specIsM_any _ a len cap ms (n : Int) HSM.out (by omega) (by omega) (HS.out.below ((Below.refl _ _).alloc (Nat.le_refl _) _))).mono ?_; rw [HV.out]; rintro e w1 ⟨rfl, hb1⟩; have HB1 := Lib.hid (below_up ((Below.refl W.heap.size W).alloc (Nat.le_refl _) _) hb1 (Nat.le_refl _)); have HHD1 := Lib.hid ((hold_nil W).below hb1); have hsz1 : W.heap.size + 1 ≤ w1.heap.size := (by have := hb1.size; simpa using this); clear hb1)
      | (go_at_call 92; refine (specReduce_any _ a len cap ms n n HF.out (HS.out.below HB1.out)).mono ?_; rw [HX.out]; rintro e w2 ⟨a2, l2, c2, rfl, hs2, _, _, hb2⟩; have hl2 : l = l2 := (by rw [← hs2.1]; exact HRL.out.symm); subst hl2; have HS2 := Lib.hid hs2; have HB2 := Lib.hid (below_up HB1.out hb2 (Nat.le_refl _)); have HHD2 := Lib.hid (HHD1.out.below hb2); have hsz2 := hb2.size; clear hs2 hb2))
    go_loopw [5, 7] (fun v i wr => ∃ (u t : Nat) (a' : Option Addr) (c' : Nat), u ≤ l ∧ t ≤ u ∧ Hid (t = min u r) ∧ i = .int .i64 u ∧ v = .slice a' t c' ∧ HoldM wr W.heap.size a' t c' (R.take t) ∧ Below W.heap.size W wr ∧ w2.heap.size ≤ wr.heap.size ∧ Hid (∀ k, w1.heap.size ≤ k → k < w2.heap.size → wr.heap[k]? = w2.heap[k]?) ∧ Hid (∀ y, a' = some y → ¬ (w1.heap.size ≤ y.block ∧ y.block < w2.heap.size))) (fun _ i _ => l - (intOf i).toNat)
    case atStart => exact ⟨0, 0, _, _, Nat.zero_le _, Nat.le_refl _, Lib.hid (by omega), rfl, rfl, HHD2.out, HB2.out, Nat.le_refl _, Lib.hid (fun k _ _ => rfl), Lib.hid (fun y hy => by cases hy; simp only; omega)⟩
    case round =>
      obtain ⟨u, t, a', c', hu, htu, HT, rfl, rfl, ho, hb, hszr, HK, HNB⟩ := hrel
      have HO := Lib.hid ho
      have HB := Lib.hid hb
      have hsz := hb.size
      by_cases hul : u < l
      · have hsf := HS2.out.keep HK.out hszr
        have HSF := Lib.hid hsf
        obtain ⟨b, off, ar, cr, rfl, hbl, _, hcw, _, _, hsrw, _⟩ := hsf.2 u hul
        have hwd := HWD.out u hul
        rw [hwd] at hcw hsrw
        have HSR := Lib.hid hsrw
        have hn9 : n ≤ 1073741824 := by omega
        obtain ⟨d, hd⟩ : ∃ d, d = leadL (row R u) := ⟨_, rfl⟩
        have HD := Lib.hid hd
        have hblw : b < wr.heap.size := by omega
        clear hsrw ho hb hsf
        by_cases hur : u < r
        · obtain rfl : t = u := by have := HT.out; omega
          have hdn : d < n := by rw [hd]; exact HLT.out t hur
          have HN := Lib.hid (take_next (R := R) (u := t) (by rw [HRL.out]; exact hul))
          clear hd hwd
          go_wp2_with (first
            | (go_at_call 78; refine (specLead_any _ _ n cr (row R t) hn9 HSR.out).mono ?_; rw [← HD.out]; rintro e w' ⟨rfl, rfl⟩)
            | (at_builtin; refine wp_append_sees rfl _ _ 25 rfl 3 i0 .i64 8 Try.underlying25 hi hz0 hz1 hz2 _ _ _ _ rfl _ _ (own_nil _ _ _) _ _ _ _ rfl (HSR.out.alloc _) (by unfold maxLen; omega) (by omega) (by simp) ?_; intro a3 len3 cap3 w3 hlen3 ho3 hm3; rw [Nat.zero_add] at hlen3; replace hlen3 := hlen3.symm; subst hlen3; rw [List.nil_append] at ho3; have HO3 := Lib.hid ho3; have hbm := below_moved ((Below.refl wr.heap.size wr).alloc (Nat.le_refl _) _) hm3 (Nat.le_refl _) (Nat.le_refl _); have HM3 := Lib.hid hbm; have hsz3 := hbm.size; clear ho3 hm3 hbm)
            | (at_builtin; refine wp_append_hold rfl _ _ 24 rfl i1 Try.underlying24 hi1 hz10 hz11 hz12 _ _ _ rfl w3.heap.size rfl _ W.heap.size ((HO.out.below HM3.out).below ((Below.refl _ _).alloc (Nat.le_refl _) _)) a3 cap3 (row R t) (by simp [HWD.out t hul]) (by rw [HWD.out t hul]; exact HO3.out.sees.alloc _) (by rw [HWD.out t hul]; exact HO3.out.cap) HO3.out.capMax (fun x hx => ⟨by have := HO3.out.2.2.2.2 x hx; simp; omega, fun y hy => by have h1 := (HO.out.outer hy).1; have h2 := HO3.out.2.2.2.2 x hx; omega⟩) (by omega) (by simp; omega) ?_; intro g4 c4 w4 ho4 hb4 hf4 hg4; have HO4 := Lib.hid ho4; have HB4 := Lib.hid hb4; have HF4 := Lib.hid hf4; have HG4 := Lib.hid hg4; clear ho4 hb4 hf4 hg4))
          go_roundw
          case rel => exact ⟨t + 1, t + 1, _, _, by omega, Nat.le_refl _, Lib.hid (by omega), by go_num, rfl, by have h := HO4.out; rw [HN.out] at h; exact h, ((below_up HB.out HM3.out (Nat.le_refl _)).alloc (by omega) _).trans HB4.out, by have := HB4.out.size; simp at this; omega, Lib.hid (fun k h1 h2 => by
              rw [HF4.out k (by simp; omega) (fun y hy e => HNB.out y hy (by omega)), ← HK.out k h1 h2]
              exact (((Below.refl w3.heap.size w3).alloc (Nat.le_refl _) _).block k (by omega)).trans (HM3.out.block k (by omega))), Lib.hid (fun y hy => by
              cases hy
              rcases HG4.out with ⟨z, hz, he⟩ | he
              · have := HNB.out z hz; simp only; omega
              · simp at he; simp only; omega)⟩
          case measure => simp [intOf]; omega
        · have hdn : d = n := by rw [hd]; exact HGE.out u (by omega) (by omega)
          subst hdn
          clear hd hwd
          go_wp2_with (go_at_call 78; refine (specLead_any _ _ d cr (row R u) hn9 HSR.out).mono ?_; rw [← HD.out]; rintro e w' ⟨rfl, rfl⟩)
          go_roundw
          case rel => exact ⟨u + 1, t, _, _, by omega, by omega, Lib.hid (by have := HT.out; omega), by go_num, rfl, HO.out, HB.out, hszr, HK, HNB⟩
          case measure => simp [intOf]; omega
      · obtain rfl : u = l := by omega
        have htr : Hid (R.take t = rrL ms n) := Lib.hid (by rw [HRR.out, show t = r by have := HT.out; omega])
        clear ho hb
        go_wp2
        go_ret
        rw [HE.out, ← htr.out]
        exact ⟨_, _, _, rfl, HO.out.seesF, HO.out.cap, HO.out.capMax, HB.out⟩
set_option maxRecDepth 20000 in
theorem specRank_any (W : World) (a : Option Addr) (len cap : Nat) (ms : List (List Int)) (cols : Int) (hsm : SmallM ms) (hn : -9223372036854775808 ≤ cols) (hm : cols ≤ 9223372036854775807) (hs : SeesM W a len ms) :
    Calls Try.prog 57 #[.slice a len cap, .int .i64 cols] W fun e w' => e = .returned (.int .i64 ((rrV ms cols).length : Int)) ∧ Below W.heap.size W w' := by
  have HS := Lib.hid hs
  have HSM := Lib.hid hsm
  clear hs hsm
  go_enter Try.func57, Try.ntmps57
  go_wp2_with (go_at_call 77; refine (specRR_any _ a len cap ms cols HSM.out hn hm HS.out).mono ?_; rintro e w1 ⟨a1, l1, c1, rfl, hs1, _, _, hb1⟩; have HL1 := Lib.hid hs1.1; have HB1 := Lib.hid hb1; clear hs1 hb1)
  go_ret
  exact ⟨ret_intV (by rw [HL1.out]), HB1.out⟩
end Go.Proofs.Ytedkeobhcpbigaa
