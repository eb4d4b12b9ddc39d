/- The union of replies' addresses, the program's. -/
import Derived.Test.YtgninjdnfidpcaaAlP5
import Derived.Test.YtgninjdnfidpcaaAlP6
import Derived.Test.YtgninjdnfidpcaaAlP4
namespace Go.Proofs.Ytgninjdnfidpcaa
open Go.RowKit
theorem cell_at {B : Nat} {w w' : World} (h : Below B w w') (g o : Nat) (hg : g < B) : w'.cell? ⟨g, o, none⟩ = w.cell? ⟨g, o, none⟩ := h.cell (p := ⟨g, o, none⟩) hg
theorem moved_cellG {lo hi g o : Nat} {w w' : World} (h : Moved lo hi w w') (h1 : g < w.heap.size) (h2 : g < lo) : w'.cell? ⟨g, o, none⟩ = w.cell? ⟨g, o, none⟩ := World.cell?_of_block (a := ⟨g, o, none⟩) (h.block g h1 (by omega))
theorem moved_frozG {lo hi g o : Nat} {w w' : World} (h : Moved lo hi w w') (h1 : g < w.heap.size) (h2 : g < lo) : w'.frozen? ⟨g, o, none⟩ = w.frozen? ⟨g, o, none⟩ := World.frozen?_of_block (a := ⟨g, o, none⟩) (h.block g h1 (by omega))
/-- What a union leaves. -/
def UnionOf (xs : List (Int × Int × Int)) (W : World) (e : Ending) (w' : World) : Prop :=
  ∃ aa ca pa cp, e = .returned (.agg #[.slice aa (addrV xs).length ca, .slice pa (addrV xs).length cp]) ∧ Sees .i64 w' aa (addrV xs).length (addrV xs) ∧ Sees .i64 w' pa (addrV xs).length (parsK xs (addrV xs) (addrV xs).length) ∧ Below W.heap.size W w'
/-- The box of a union under way. -/
def BoxU (w : World) (g : Nat) (aa : Option Addr) (n ca : Nat) (pa : Option Addr) (k cp : Nat) : Prop :=
  w.cell? ⟨g, 0, none⟩ = some (.slice aa n ca) ∧ w.cell? ⟨g, 1, none⟩ = some (.slice pa k cp) ∧ w.frozen? ⟨g, 0, none⟩ = false ∧ w.frozen? ⟨g, 1, none⟩ = false ∧ g < w.heap.size
theorem BoxU.below {w w' : World} {g : Nat} {aa : Option Addr} {n ca : Nat} {pa : Option Addr} {k cp B : Nat} (h : BoxU w g aa n ca pa k cp) (hb : Below B w w') (hg : g < B) : BoxU w' g aa n ca pa k cp :=
  ⟨(cell_at hb g 0 hg).trans h.1, (cell_at hb g 1 hg).trans h.2.1, (frozen_below hb (p := ⟨g, 0, none⟩) hg).trans h.2.2.1, (frozen_below hb (p := ⟨g, 1, none⟩) hg).trans h.2.2.2.1, Nat.lt_of_lt_of_le h.2.2.2.2 hb.size⟩
theorem BoxU.moved {w w' : World} {g : Nat} {aa : Option Addr} {n ca : Nat} {pa : Option Addr} {k cp lo hi : Nat} (h : BoxU w g aa n ca pa k cp) (hm : Moved lo hi w w') (hg : g < lo) : BoxU w' g aa n ca pa k cp :=
  ⟨(moved_cellG hm h.2.2.2.2 hg).trans h.1, (moved_cellG hm h.2.2.2.2 hg).trans h.2.1, (moved_frozG hm h.2.2.2.2 hg).trans h.2.2.1, (moved_frozG hm h.2.2.2.2 hg).trans h.2.2.2.1, Nat.lt_of_lt_of_le h.2.2.2.2 hm.size⟩
theorem BoxU.alloc {w : World} {g : Nat} {aa : Option Addr} {n ca : Nat} {pa : Option Addr} {k cp : Nat} (h : BoxU w g aa n ca pa k cp) (o : Obj) : BoxU (w.alloc o) g aa n ca pa k cp :=
  h.below ((Below.refl w.heap.size w).alloc (Nat.le_refl _) o) h.2.2.2.2
theorem BoxU.drew {w : World} {g : Nat} {aa : Option Addr} {n ca : Nat} {pa : Option Addr} {k cp : Nat} (h : BoxU w g aa n ca pa k cp) : BoxU w.drew g aa n ca pa k cp :=
  h.below (Below.refl w.heap.size w).drew h.2.2.2.2
theorem BoxU.put {w : World} {g : Nat} {aa : Option Addr} {n ca : Nat} {pa : Option Addr} {k cp : Nat} (h : BoxU w g aa n ca pa k cp) (pa2 : Option Addr) (k2 cp2 : Nat) : BoxU (w.setCell ⟨g, 1, none⟩ (.slice pa2 k2 cp2)) g aa n ca pa2 k2 cp2 := by
  obtain ⟨h0, h1, h2, h3, h4⟩ := h
  exact ⟨by rw [World.cell?_setCell_other _ _ _ _ (by simp)]; exact h0, World.cell?_setCell_same _ _ _ h1, by rw [World.frozen?_setCell]; exact h2, by rw [World.frozen?_setCell]; exact h3, by simpa [World.setCell] using h4⟩
theorem parsK_next (xs : List (Int × Int × Int)) (ad : List Int) (k : Nat) : parsK xs ad (k + 1) = parsK xs ad k ++ [((parV xs ad (parsK xs ad k) k : Nat) : Int)] := rfl
theorem parV_le (xs : List (Int × Int × Int)) (ad ps : List Int) (i : Nat) : parV xs ad ps i ≤ i := by
  rcases parV_cases xs ad ps i with ⟨f, hf, _, _, e⟩ | ⟨_, e⟩
  · rw [e]; omega
  · rw [e]; exact Nat.le_refl _
set_option maxRecDepth 20000 in
set_option maxHeartbeats 6400000 in
theorem unionP_any (W : World) (oa : Option Addr) (lo co : Nat) (xs ys : List (Int × Int × Int)) (hlo : lo ≤ 1048576) (hso : SeesY W oa lo ys) (hys : Sorted xs ys) (hR : areR xs = true) :
    Calls Try.prog 71 #[.slice oa lo co] W (UnionOf xs W) := by
  obtain ⟨V, hV⟩ : ∃ V, V = W.alloc (.cells #[.slice none 0 0, .slice none 0 0] 80) := ⟨_, rfl⟩
  have hBV : Below W.heap.size W V := by rw [hV]; exact (Below.refl _ _).alloc (Nat.le_refl _) _
  have hBX : BoxU V W.heap.size none 0 0 none 0 0 := by
    rw [hV]
    exact ⟨by simp, by simp, by simp [go_sem], by simp [go_sem], by simp⟩
  have HSZ : Hid (V.heap.size = W.heap.size + 1) := Lib.hid (by rw [hV]; simp)
  have HSO := Lib.hid (hso.below hBV)
  have HBX := Lib.hid hBX
  have HBV := Lib.hid hBV
  have HYS := Lib.hid hys
  have HR := Lib.hid hR
  have HEA := Lib.hid (sorted_addr hys)
  have hal : (addrV xs).length ≤ 12 := Nat.le_trans (addr_len xs) (areR_true.1 hR).2
  obtain ⟨ad, had⟩ : ∃ ad, ad = addrV xs := ⟨_, rfl⟩
  have HAD := Lib.hid had
  rw [← had] at HEA hal
  have HV := Lib.hid hV
  obtain ⟨i0, hi, hz0, hz1, hz2⟩ := info_parts info_i64
  clear hso hBX hBV hys hR had hV
  go_enter Try.func71, Try.ntmps71
  go_wp2_with fail
  rw [← HV.out]
  go_at_call 38
  refine (addrP_any V oa lo co ys hlo HSO.out).mono ?_
  rw [HEA.out]
  rintro e w2 ⟨aa, n, ca, rfl, ho2, hb2⟩
  have hn : ad.length = n := ho2.1
  have hn12 : n ≤ 12 := by omega
  have HA2 := Lib.hid ho2.sees
  have HB2 := Lib.hid (below_up HBV.out hb2 (Nat.le_refl _))
  have HBX2 := Lib.hid (HBX.out.below hb2 HBX.out.2.2.2.2)
  have HSO2 := Lib.hid (HSO.out.below hb2)
  have HN := Lib.hid hn
  have HAB : Hid (∀ x, aa = some x → ¬ (W.heap.size ≤ x.block ∧ x.block < W.heap.size + 1)) := Lib.hid (fun x hx => by
    have h1 := (ho2.2.2.2.2 x hx).1
    have h2 := HSZ.out
    omega)
  clear ho2 hb2 hn
  go_wp2_with fail
  obtain ⟨g, hg⟩ : ∃ g, g = w2.heap.size := ⟨_, rfl⟩
  have hgle : g ≤ w2.heap.size := Nat.le_of_eq hg
  have HG := Lib.hid hg
  rw [← hg]
  have hlo2 : lo ≤ 1073741824 := by omega
  go_loopw [4, 11] (fun _ s wr => ∃ (k : Nat) (pa : Option Addr) (cp : Nat), k ≤ n ∧ s = .int .i64 k ∧ BoxU wr g aa n ca pa k cp ∧ Own .i64 3 wr (g + 1) wr.heap.size pa k cp (parsK xs ad k) ∧ Below g w2 wr) (fun _ s _ => n - (intOf s).toNat)
  case atStart =>
    have e := HG.out
    subst e
    refine ⟨0, none, 0, Nat.zero_le _, rfl, ⟨by simp, by simp, by simp [go_sem], by simp [go_sem], by simp⟩, ⟨rfl, (fun _ h => by cases h), Nat.le_refl _, ⟨rfl, .inl ⟨rfl, rfl⟩⟩, fun x hx => by cases hx⟩, (Below.refl _ _).alloc (Nat.le_refl _) _⟩
  case round =>
    obtain ⟨k, pa, cp, hk, rfl, hbx, ho, hb⟩ := hrel
    by_cases hlt : k < n
    · obtain ⟨ps, hps⟩ : ∃ ps, ps = parsK xs ad k := ⟨_, rfl⟩
      rw [← hps] at ho
      obtain ⟨q, hq⟩ : ∃ q : Int, ((parV xs ad ps k : Nat) : Int) = q := ⟨_, rfl⟩
      have hqk : q ≤ 12 := by rw [← hq]; have := parV_le xs ad ps k; omega
      have hq0 : 0 ≤ q := by rw [← hq]; omega
      have HQ := Lib.hid hq
      have HNX : Hid (parsK xs ad (k + 1) = ps ++ [q]) := Lib.hid (by rw [parsK_next, ← hps, hq])
      have HQW : Hid ((Lit.int .i64 q).wf = true) := Lib.hid (WalkArith.wf_i64 (by omega))
      have HSAr := Lib.hid (HA2.out.below (show Below w2.heap.size w2 wr by rw [← hg]; exact hb))
      have HSOr := Lib.hid (HSO2.out.below (show Below w2.heap.size w2 wr by rw [← hg]; exact hb))
      have HPr := Lib.hid ho
      have HBXr := Lib.hid hbx
      have HBr := Lib.hid hb
      have hszr := hb.size
      have hx0 := hbx.1
      have hx1 := hbx.2.1
      have hgw := hbx.2.2.2.2
      clear hq hps hbx ho hb hg
      go_wp2_with fail
      go_region_law (first
        | (go_simp; go_at_call 96; refine (parP_any _ aa n ca ad pa k cp ps oa lo co xs ys hn12 hlt HSAr.out HPr.out.sees hlo2 HSOr.out HYS.out HR.out).mono ?_; rw [HQ.out]; rintro e w3 ⟨rfl, hb3⟩; have HBX3 := Lib.hid (HBXr.out.below hb3 HBXr.out.2.2.2.2); have HO3 := Lib.hid (HPr.out.below hb3); have HB3 := Lib.hid (below_up HBr.out hb3 hgle); have hx0 := HBX3.out.1; have hx1 := HBX3.out.2.1; have hx1a := (HBX3.out.alloc (.cells #[.int .i64 q] 3)).2.1; have hsz3 := HB3.out.size; have hgw3 := HBX3.out.2.2.2.2; clear hb3)
        | (go_simp; go_at_call 96; refine (parP_any _ aa n ca ad pa k cp ps oa lo co xs ys hn12 hlt (HSAr.out.below (Below.refl _ _).drew) (HPr.out.sees.below (Below.refl _ _).drew) hlo2 (HSOr.out.below (Below.refl _ _).drew) HYS.out HR.out).mono ?_; rw [HQ.out]; rintro e w3 ⟨rfl, hb3⟩; have HBX3 := Lib.hid (HBXr.out.drew.below hb3 HBXr.out.drew.2.2.2.2); have HO3 := Lib.hid ((HPr.out.below (Below.refl _ _).drew).below hb3); have HB3 := Lib.hid (below_up HBr.out.drew hb3 hgle); have hx0 := HBX3.out.1; have hx1 := HBX3.out.2.1; have hx1a := (HBX3.out.alloc (.cells #[.int .i64 q] 3)).2.1; have hsz3 := HB3.out.size; have hgw3 := HBX3.out.2.2.2.2; clear hb3)
        | (refine step_append_sees rfl _ _ 24 rfl 3 i0 .i64 8 Try.underlying24 hi hz0 hz1 hz2 _ _ _ _ rfl (g + 1) _ (HO3.out.alloc _) _ 1 1 [q] rfl (sees_one HQW.out _ _) (by unfold maxLen; omega) (by omega) (by simp; omega) ?_; intro a4 len4 cap4 w4 hlen4 ho4 hm4; subst hlen4; have hg3 : g ≤ w3.heap.size := (Nat.le_of_lt hgw3); have HO4 := Lib.hid ho4; have HBX4 := Lib.hid ((HBX3.out.alloc _).moved hm4 (Nat.lt_succ_self g)); have HB4 := Lib.hid (below_moved (HB3.out.alloc hg3 _) hm4 hgle (Nat.le_succ g)); have hx0 := HBX4.out.1; have hx1 := HBX4.out.2.1; have hf1 := HBX4.out.2.2.2.1; clear ho4 hm4)
        | (refine step_append_sees rfl _ _ 24 rfl 3 i0 .i64 8 Try.underlying24 hi hz0 hz1 hz2 _ _ _ _ rfl (g + 1) _ ((HO3.out.below (Below.refl _ _).drew).alloc _) _ 1 1 [q] rfl (sees_one HQW.out _ _) (by unfold maxLen; omega) (by omega) (by simp; omega) ?_; intro a4 len4 cap4 w4 hlen4 ho4 hm4; subst hlen4; have hg3 : g ≤ w3.heap.size := (Nat.le_of_lt hgw3); have HO4 := Lib.hid ho4; have HBX4 := Lib.hid ((HBX3.out.drew.alloc _).moved hm4 (Nat.lt_succ_self g)); have HB4 := Lib.hid (below_moved (HB3.out.drew.alloc hg3 _) hm4 hgle (Nat.le_succ g)); have hx0 := HBX4.out.1; have hx1 := HBX4.out.2.1; have hf1 := HBX4.out.2.2.2.1; clear ho4 hm4)
        | (refine step_append_sees rfl _ _ 24 rfl 3 i0 .i64 8 Try.underlying24 hi hz0 hz1 hz2 _ _ _ _ rfl (g + 1) _ ((HO3.out.alloc _).below (Below.refl _ _).drew) _ 1 1 [q] rfl ((sees_one HQW.out _ _).below (Below.refl _ _).drew) (by unfold maxLen; omega) (by omega) (by simp; omega) ?_; intro a4 len4 cap4 w4 hlen4 ho4 hm4; subst hlen4; have hg3 : g ≤ w3.heap.size := (Nat.le_of_lt hgw3); have HO4 := Lib.hid ho4; have HBX4 := Lib.hid ((HBX3.out.alloc _).drew.moved hm4 (Nat.lt_succ_self g)); have HB4 := Lib.hid (below_moved (HB3.out.alloc hg3 _).drew hm4 hgle (Nat.le_succ g)); have hx0 := HBX4.out.1; have hx1 := HBX4.out.2.1; have hf1 := HBX4.out.2.2.2.1; clear ho4 hm4))
      all_goals
        have hm5 : Moved g (g + 1) w4 (w4.setCell ⟨g, 1, none⟩ (.slice a4 (k + 1) cap4)) := moved_cell _ _ _ _
        have HM5 := Lib.hid hm5
        clear hm5
        go_wp2
        go_roundw
        case rel => exact ⟨k + 1, _, _, by omega, by go_num, HBX4.out.put _ _ _, by rw [HNX.out]; exact (HO4.out.moved HM5.out (.inr (Nat.le_refl _))).wide (Nat.le_refl _) HM5.out.size (Nat.le_refl _), Below.setCell HB4.out (Nat.le_refl _) _⟩
        case measure => simp [intOf]; omega
    · obtain rfl : k = n := by omega
      have hr := HBX2.out.below (show Below w2.heap.size w2 wr by rw [← hg]; exact hb) HBX2.out.2.2.2.2
      obtain ⟨r0, r1, f0, f1, hrw⟩ := hr
      obtain ⟨x0, x1, _, _, hgw⟩ := hbx
      have HPS := Lib.hid ho.sees
      have HSA := Lib.hid (HA2.out.below (show Below w2.heap.size w2 wr by rw [← hg]; exact hb))
      have HB := Lib.hid (HB2.out.trans (hb.mono (show W.heap.size ≤ g by rw [hg]; exact HB2.out.size)))
      have HM := Lib.hid (show Moved W.heap.size (W.heap.size + 1) wr ((wr.setCell ⟨W.heap.size, 0, none⟩ (.slice aa k ca)).setCell ⟨W.heap.size, 1, none⟩ (.slice pa k cp)) from (moved_cell _ _ _ _).trans (moved_cell _ _ _ _))
      have HPB : Hid (∀ x, pa = some x → ¬ (W.heap.size ≤ x.block ∧ x.block < W.heap.size + 1)) := Lib.hid (fun x hx => by
        have h1 := (ho.2.2.2.2 x hx).1
        have h2 := HB2.out.size
        omega)
      clear ho hb hg
      go_wp2
      refine bodyPost_ret (v := .agg #[.slice aa k ca, .slice pa k cp]) (by simp [results, Try.results71, go_sem, r0, r1]) rfl ?_
      unfold UnionOf
      rw [← HAD.out, HN.out]
      exact ⟨aa, ca, pa, cp, rfl, HSA.out.moved HM.out HAB.out, HPS.out.moved HM.out HPB.out, Below.setCell (Below.setCell HB.out (Nat.le_refl _) _) (Nat.le_refl _) _⟩
end Go.Proofs.Ytgninjdnfidpcaa
