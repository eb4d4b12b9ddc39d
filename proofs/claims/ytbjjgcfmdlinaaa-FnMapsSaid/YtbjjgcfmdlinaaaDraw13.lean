/- Drawn traces: the trace of a path. -/
import Derived.Test.YtbjjgcfmdlinaaaRouM
import Derived.Test.YtbjjgcfmdlinaaaDraw7
import Derived.Test.YtbjjgcfmdlinaaaDrawB
import Derived.Test.YtbjjgcfmdlinaaaAppM
import Derived.Test.YtbjjgcfmdlinaaaAppT
namespace Go.Proofs.Ytbjjgcfmdlinaaa
open Go.RowKit
theorem best_short {m : Nat} {ls : List (Int × Int)} {a b : Int} {p : List Int} (he : Ends m ls) (ha : 0 ≤ a ∧ a < (m : Int)) (h : Best ls a b p) : p.length < m := by
  obtain ⟨q, hq, hl⟩ := shorten he p.length p a b (Nat.le_refl _) ha h.1
  have := sle_len (h.2 q hq)
  omega
theorem route_len (n : Int) (ls : List (Int × Int)) (a b : Int) : (routeV n ls a b).length ≤ 8 := by
  cases h : askR n ls a b
  · rw [route_no h]; exact Nat.zero_le _
  · obtain ⟨m, x, y, rfl, rfl, rfl, _, h8, hx, _, _, _, he⟩ := ask_true h
    by_cases hex : ∃ p, Best ls (x : Int) (y : Int) p
    · obtain ⟨p, hp⟩ := hex
      rw [route_best h hp]
      have := best_short he ⟨by omega, by omega⟩ hp
      omega
    · unfold routeV
      rw [if_pos h, dif_neg hex]
      exact Nat.zero_le _
theorem endV1_wf {ls : List (Int × Int)} (hf : FitL ls) (x v : Int) : (Lit.int .i64 (endV ls [x] v)).wf = true := by
  have hm1 : (Lit.int .i64 (-1)).wf = true := by decide
  unfold endV endO
  cases h : stepN ls x v with
  | none => simpa using hm1
  | some u =>
    simp only [Option.bind_some, endO, Option.getD_some]
    unfold stepN at h
    split at h
    · rename_i hx
      obtain ⟨k, rfl⟩ : ∃ k : Nat, x = (k : Int) := ⟨x.toNat, by omega⟩
      have hk : k < ls.length := by omega
      have hp := hf (ls.getD k (0, 0)) (by simp [List.getD, hk])
      rw [show ((k : Int)).toNat = k by simp] at h
      unfold other at h
      split at h
      · cases h; exact hp.2
      · split at h
        · cases h; exact hp.1
        · cases h
    · cases h
/-- A struct of one slice in a box. -/
structure TrC (w : World) (g : Nat) (a : Option Addr) (l c : Nat) : Prop where
  c0 : w.cell? ⟨g, 0, none⟩ = some (.slice a l c)
  f0 : w.frozen? ⟨g, 0, none⟩ = false
  lt : g < w.heap.size
theorem trC_new (w : World) (a : Option Addr) (l c : Nat) (t : TypeId) : TrC (w.alloc (.cells #[.slice a l c] t)) w.heap.size a l c := ⟨by go_simp, by go_simp, by simp⟩
theorem TrC.keep {w w' : World} {g : Nat} {a : Option Addr} {l c : Nat} (h : TrC w g a l c) (hb : w'.heap[g]? = w.heap[g]?) (hs : w.heap.size ≤ w'.heap.size) : TrC w' g a l c :=
  ⟨(World.cell?_of_block (a := ⟨g, 0, none⟩) hb).trans h.c0, (World.frozen?_of_block (a := ⟨g, 0, none⟩) hb).trans h.f0, Nat.lt_of_lt_of_le h.lt hs⟩
theorem TrC.below {w w' : World} {g : Nat} {a : Option Addr} {l c : Nat} (h : TrC w g a l c) (hb : Below w.heap.size w w') : TrC w' g a l c := h.keep (hb.block g h.lt) hb.size
theorem TrC.belowB {w w' : World} {g B : Nat} {a : Option Addr} {l c : Nat} (h : TrC w g a l c) (hb : Below B w w') (hg : g < B) : TrC w' g a l c := h.keep (hb.block g hg) hb.size
theorem TrC.grown {w w' : World} {g B : Nat} {a : Option Addr} {l c : Nat} (h : TrC w g a l c) (hg : w.grownBy w' (some B)) (hne : g ≠ B) : TrC w' g a l c := h.keep (hg.block g h.lt (by simpa using hne)) hg.size
theorem TrC.moved {w w' : World} {g lo hi : Nat} {a : Option Addr} {l c : Nat} (h : TrC w g a l c) (hm : Moved lo hi w w') (ho : ¬ (lo ≤ g ∧ g < hi)) : TrC w' g a l c := h.keep (hm.block g h.lt ho) hm.size
theorem TrC.put {w : World} {g : Nat} {a : Option Addr} {l c : Nat} (h : TrC w g a l c) (a' : Option Addr) (l' c' : Nat) : TrC (w.setCell ⟨g, 0, none⟩ (.slice a' l' c')) g a' l' c' :=
  ⟨World.cell?_setCell_same _ _ _ h.c0, by rw [World.frozen?_setCell]; exact h.f0, by simpa [World.setCell] using h.lt⟩
theorem moved_put (w : World) (g j : Nat) (v : Value) : Moved g (g + 1) w (w.setCell ⟨g, j, none⟩ v) := Moved.of_grown (grown_setCell _ _ _ _) (Nat.le_refl _) (Nat.lt_succ_self _)
theorem moved_grown {w w' : World} {B : Nat} (h : w.grownBy w' (some B)) : Moved B (B + 1) w w' := Moved.of_grown h (Nat.le_refl _) (Nat.lt_succ_self _)
/-- What a draw of a trace leaves. -/
def DrewTr (B : Nat) (w : World) (e : Ending) (w' : World) : Prop := ∃ (a : Option Addr) (l c : Nat) (zs : List Int), 1 ≤ l ∧ l ≤ 9 ∧ e = .returned (.agg #[.slice a l c]) ∧ Own .i64 3 w' w.heap.size w'.heap.size a l c zs ∧ Cur w' B ∧ w.grownBy w' (some B)
set_option maxRecDepth 20000 in
set_option maxHeartbeats 6400000 in
theorem trace_any (W : World) (B : Nat) (n : Int) (a : Option Addr) (len cap : Nat) (ls : List (Int × Int)) (x0 y0 : Int) (hl : len ≤ 1073741824) (hs : SeesL W a len ls) (hx : (Lit.int .i64 x0).wf = true) (hc : Cur W B) :
    Calls Try.prog 81 #[.pointer (some ⟨B, 0, none⟩), .agg #[.int .i64 n, .slice a len cap], .int .i64 x0, .int .i64 y0] W (DrewTr B W) := by
  obtain ⟨V, hV⟩ : ∃ V, V = (W.alloc (.cells #[.int .i64 n, .slice a len cap] 26)).alloc (.cells #[.slice none 0 0] 36) := ⟨_, rfl⟩
  have hBV : Below W.heap.size W V := by rw [hV]; exact ((Below.refl _ _).alloc (Nat.le_refl _) _).alloc (by simp) _
  have hsV : V.heap.size = W.heap.size + 2 := by rw [hV]; simp
  have n0 : V.cell? ⟨W.heap.size, 0, none⟩ = some (.int .i64 n) := by rw [hV]; simp
  have n1 : V.cell? ⟨W.heap.size, 1, none⟩ = some (.slice a len cap) := by rw [hV]; simp
  have HRB : Hid (TrC V (W.heap.size + 1) none 0 0) := Lib.hid (by
    have h := trC_new (W.alloc (.cells #[.int .i64 n, .slice a len cap] 26)) none 0 0 36
    rw [World.size_alloc] at h
    rw [hV]; exact h)
  have HNB := Lib.hid (And.intro n0 n1)
  have HB := hc.lt
  have HC0 := Lib.hid hc
  have HSL := Lib.hid (hs.below hBV)
  have HFL := Lib.hid hs.2.1
  have HXW := Lib.hid hx
  have HBV := Lib.hid hBV
  have HSV := Lib.hid hsV
  have HV := Lib.hid hV
  have hrl := route_len n ls x0 y0
  obtain ⟨ps, hps⟩ : ∃ ps, ps = routeV n ls x0 y0 := ⟨_, rfl⟩
  have HPS := Lib.hid hps
  rw [← hps] at hrl
  obtain ⟨i0, hi, hz0, hz1, hz2⟩ := info_parts info_i64
  clear hs hx hc hBV hsV n0 n1 hV hps
  go_enter Try.func81, Try.ntmps81
  go_wp2_with fail
  rw [← HV.out]
  go_at_call 88
  refine (specRoute_any V n a len cap ls x0 y0 hl HSL.out).mono ?_
  rw [← HPS.out]
  rintro e w1 ⟨ap, lp, cp, rfl, ho1, hb1⟩
  have hlp : ps.length = lp := ho1.1
  subst hlp
  have HP1 := Lib.hid ho1.sees
  have HB1 := Lib.hid hb1
  have HRB1 := Lib.hid (HRB.out.below hb1)
  have hs1 := hb1.size
  have m0 := (hb1.cell (p := ⟨W.heap.size, 0, none⟩) (by rw [HSV.out]; exact Nat.lt_add_of_pos_right (by decide))).trans HNB.out.1
  have m1 := (hb1.cell (p := ⟨W.heap.size, 1, none⟩) (by rw [HSV.out]; exact Nat.lt_add_of_pos_right (by decide))).trans HNB.out.2
  have HM := Lib.hid (And.intro m0 m1)
  have HSL1 := Lib.hid (HSL.out.below hb1)
  have hx1 : W.heap.size < w1.heap.size := by have := HSV.out; omega
  have hx2 : W.heap.size + 1 < w1.heap.size := by have := HSV.out; omega
  clear ho1 hb1 m0 m1
  go_wp2_with fail
  obtain ⟨g0, hg0⟩ : ∃ g0, g0 = w1.heap.size := ⟨_, rfl⟩
  have HG0 := Lib.hid hg0
  rw [← hg0]
  rw [← hg0] at hx1 hx2
  clear hg0
  go_loopw [11, 12] (fun v s wr => ∃ (k gr c : Nat) (y : Int) (zs : List Int), k ≤ ps.length ∧ s = .int .i64 k ∧ v = .int .i64 y ∧ (Lit.int .i64 y).wf = true ∧ (gr = g0 ∨ g0 + 1 < gr) ∧ TrC wr (g0 + 1) (some ⟨gr, 0, none⟩) (k + 1) c ∧ OwnB wr gr (k + 1) c zs ∧ Below g0 w1 wr) (fun _ s _ => ps.length - (intOf s).toNat)
  case atStart =>
    have e := HG0.out
    subst e
    have h1 := trC_new (w1.alloc (.cells #[.int .i64 x0] 3)) (some ⟨w1.heap.size, 0, none⟩) 1 1 36
    rw [World.size_alloc] at h1
    have h2 := (own_single HXW.out 3 w1).below ((Below.refl _ _).alloc (Nat.le_refl _) (.cells #[.slice (some ⟨w1.heap.size, 0, none⟩) 1 1] 36))
    exact ⟨0, w1.heap.size, 1, x0, [x0], Nat.zero_le _, rfl, rfl, HXW.out, .inl rfl, h1, h2, ((Below.refl _ _).alloc (Nat.le_refl _) _).alloc (by simp) _⟩
  case round =>
    obtain ⟨k, gr, c, y, zs, hk, rfl, rfl, hy, hgr, ht, ho, hb⟩ := hrel
    have HT := Lib.hid ht
    have HO := Lib.hid ho
    have HB1r := Lib.hid hb
    have HYW := Lib.hid hy
    have hsr : g0 ≤ wr.heap.size := by rw [HG0.out]; exact hb.size
    have m0 := (hb.cell (p := ⟨W.heap.size, 0, none⟩) hx1).trans HM.out.1
    have m1 := (hb.cell (p := ⟨W.heap.size, 1, none⟩) hx1).trans HM.out.2
    have hbW : Below w1.heap.size w1 wr := by rw [← HG0.out]; exact hb
    by_cases hlt : k < ps.length
    · obtain ⟨bp, op, rfl, hbp, hcp⟩ : ∃ b off, ap = some ⟨b, off, none⟩ ∧ b < wr.heap.size ∧ wr.cell? ⟨b, off + k, none⟩ = some (.int .i64 (ps.getD k 0)) := by
        rcases (HP1.out.below hbW).2.2 with h0 | ⟨b, off, ha, hb2, hc2⟩
        · omega
        · exact ⟨b, off, ha, hb2, hc2 k hlt⟩
      obtain ⟨q, hq⟩ : ∃ q, q = ps.getD k 0 := ⟨_, rfl⟩
      have HQW : Hid ((Lit.int .i64 q).wf = true) := Lib.hid (by rw [hq]; exact HP1.out.2.1 _ (getD_mem hlt))
      rw [← hq] at hcp
      have hi1 : (k : Int) < (ps.length : Int) := by omega
      have hi3 : (0 : Int) ≤ (k : Int) := by omega
      have HSr := Lib.hid (HSL1.out.below hbW)
      have HMr := Lib.hid (And.intro m0 (And.intro m1 hcp))
      have HLT := Lib.hid (And.intro (Nat.lt_of_lt_of_le hx1 hsr) hbp)
      clear hq ht ho hb hbW hy
      go_wp2_with fail
      go_region_held3 (fun w' => w'.cell? ⟨W.heap.size, 0, none⟩ = some (.int .i64 n) ∧ w'.cell? ⟨W.heap.size, 1, none⟩ = some (.slice a len cap) ∧ w'.cell? ⟨bp, op + k, none⟩ = some (.int .i64 q)) (go_keep) (first
        | (go_at_call 89; refine (specEnd_any _ n a len cap ls _ 1 1 [q] y hl ((HSr.out.below (Below.refl _ _).drew).alloc _) (by decide) (sees_one HQW.out wr.drew 3)).mono ?_; rintro e w3 ⟨rfl, hb3⟩; have HB3 := Lib.hid (below_up ((Below.refl wr.heap.size wr).drew.alloc (Nat.le_refl _) _) hb3 (Nat.le_refl _)); have m0 := (HB3.out.cell (p := ⟨W.heap.size, 0, none⟩) HLT.out.1).trans HMr.out.1; have m1 := (HB3.out.cell (p := ⟨W.heap.size, 1, none⟩) HLT.out.1).trans HMr.out.2.1; have hcp := (HB3.out.cell (p := ⟨bp, op + k, none⟩) HLT.out.2).trans HMr.out.2.2; clear hb3))
      obtain ⟨v2, hv2⟩ : ∃ v2, v2 = endV ls [q] y := ⟨_, rfl⟩
      have HVW : Hid ((Lit.int .i64 v2).wf = true) := Lib.hid (by rw [hv2]; exact endV1_wf HFL.out q y)
      rw [← hv2]
      clear hv2
      have HT3 := Lib.hid (HT.out.below HB3.out)
      have HO3 := Lib.hid (HO.out.below HB3.out)
      have hs3 := HB3.out.size
      have t0 := HT3.out.c0
      have f0 := HT3.out.f0
      have hgl := HO3.out.lt
      have htl := HT3.out.lt
      clear m0 m1 hcp
      go_wp2_with (at_builtin; refine wp_append_blk rfl _ _ 34 rfl i0 Try.underlying34 hi hz0 hz1 hz2 gr (k + 1) c _ rfl (HO3.out.below (below_new _ _)) _ v2 _ rfl (sees_one (x := v2) HVW.out _ _) (by omega) ?_; intro g' cap' w4 ho4 hat4 hm4; have HO4 := Lib.hid ho4; have HT4 := Lib.hid ((HT3.out.below (below_new _ _)).moved hm4 (by omega)); have HB4 := Lib.hid (((HB1r.out.trans (HB3.out.mono hsr)).alloc (Nat.le_trans hsr hs3) (.cells #[.int .i64 v2] 3)).trans (hm4.below (by omega) (by simp; omega))); have hgg : g' = g0 ∨ g0 + 1 < g' := hat4.elim (fun e => by omega) (fun e => by rw [World.size_alloc] at e; omega); have t0 := HT4.out.c0; have f0 := HT4.out.f0; clear ho4 hat4 hm4)
      have hmp := moved_put w4 (g0 + 1) 0 (.slice (some ⟨g', 0, none⟩) (k + 1 + 1) cap')
      go_roundw
      case rel => exact ⟨k + 1, g', cap', v2, _, by omega, by go_num, rfl, HVW.out, hgg, HT4.out.put _ _ _, HO4.out.off hmp (by omega), HB4.out.trans (hmp.below (Nat.le_succ _) (Nat.le_trans (Nat.le_succ _) (Nat.le_of_lt HT4.out.lt)))⟩
      case measure => simp [intOf]; omega
    · obtain rfl : k = ps.length := by omega
      obtain ⟨L, hL⟩ : ∃ L, L = ps.length + 1 := ⟨_, rfl⟩
      have hL9 : L ≤ 9 := by omega
      have hL1 : 1 ≤ L := by omega
      rw [← hL] at ht ho
      have hbWr : Below W.heap.size W wr := HBV.out.trans ((HB1.out.mono HBV.out.size).trans (hbW.mono (Nat.le_trans HBV.out.size HB1.out.size)))
      have HCr := Lib.hid (HC0.out.kept (row := none) (grown_of_below hbWr none) (fun k e => by cases e))
      have HGr := Lib.hid (grown_of_below hbWr (some B))
      have HRr := Lib.hid ((HRB1.out).belowB hb (by have := HSV.out; have := HB1.out.size; rw [HG0.out]; omega))
      have HTr := Lib.hid ht
      have HOr := Lib.hid ho
      clear ht ho hb hbW hy m0 m1 hL hbWr
      go_wp2_with fail
      go_loopw [13] (fun s wr2 => ∃ (j : Nat) (zs2 : List Int), j ≤ L ∧ s = .int .i64 j ∧ TrC wr2 (g0 + 1) (some ⟨gr, 0, none⟩) L c ∧ OwnB wr2 gr L c zs2 ∧ TrC wr2 (W.heap.size + 1) none 0 0 ∧ Cur wr2 B ∧ W.grownBy wr2 (some B)) (fun s _ => L - (intOf s).toNat)
      case atStart => exact ⟨0, zs, Nat.zero_le _, rfl, HTr.out, HOr.out, HRr.out, HCr.out, HGr.out⟩
      case round =>
        obtain ⟨j, zs2, hj, rfl, ht, ho, hr, hc, hg⟩ := hrel
        have HT := Lib.hid ht
        have HO := Lib.hid ho
        have HR := Lib.hid hr
        have HC := Lib.hid hc
        have HG := Lib.hid hg
        have t0 := ht.c0
        by_cases hlt : j < L
        · have hj0 : (0 : Int) ≤ (j : Int) := by omega
          have hj1 : (j : Int) < (L : Int) := by omega
          clear ht ho hr hc hg
          go_wp2_with fail
          go_at_call 90
          refine (once_any _ B 6 (by decide) HC.out).mono ?_
          rintro e w2 ⟨x, rfl, hc2, hg2⟩
          have HT2 := Lib.hid (HT.out.grown hg2 (by omega))
          have HR2 := Lib.hid (HR.out.grown hg2 (by omega))
          have HO2 := Lib.hid (HO.out.off (moved_grown hg2) (by omega))
          have HC2 := Lib.hid hc2
          have HG2 := Lib.hid (grown_trans HG.out hg2)
          have t0 := HT2.out.c0
          obtain ⟨_, _, _, hcs, hfz⟩ := HO2.out.spot
          have hcj := hcs j hlt
          have hfj := hfz j
          clear hcs hfz hc2 hg2
          cases x
          · go_wp2_with fail
            go_roundw
            case rel => exact ⟨j + 1, zs2, by omega, by go_num, HT2.out, HO2.out, HR2.out, HC2.out, HG2.out⟩
            case measure => simp [intOf]; omega
          · have hst := HO2.out.stored j (-1) (by decide)
            have HS1 := Lib.hid hst.1
            have HS2 := Lib.hid hst.2
            have HC3 := Lib.hid (HC2.out.kept (grown_setCell w2 gr j (.int .i64 (-1))) (fun k e => by cases e; omega))
            clear hst
            go_wp2_with fail
            go_roundw
            case rel => exact ⟨j + 1, _, by omega, by go_num, HT2.out.moved HS2.out (by omega), HS1.out, HR2.out.moved HS2.out (by omega), HC3.out, grown_moved HG2.out HS2.out (by omega)⟩
            case measure => simp [intOf]; omega
        · obtain rfl : j = L := by omega
          have r0 := hr.c0
          have r1 := hr.f0
          have hm := moved_put wr (W.heap.size + 1) 0 (.slice (some ⟨gr, 0, none⟩) j c)
          have HM5 := Lib.hid hm
          have HC3 := Lib.hid (HC.out.kept (grown_setCell wr (W.heap.size + 1) 0 (.slice (some ⟨gr, 0, none⟩) j c)) (fun k e => by cases e; omega))
          clear ht ho hr hc hg hm
          go_wp2
          refine bodyPost_ret (v := .agg #[.slice (some ⟨gr, 0, none⟩) j c]) (by simp [results, Try.results81, go_sem, r0]) rfl ?_
          exact ⟨_, j, c, zs2, hL1, hL9, rfl, (HO.out.off HM5.out (by omega)).wide (by omega) (Nat.le_trans HO.out.lt HM5.out.size) (Nat.le_refl _), HC3.out, grown_moved HG.out HM5.out (Nat.le_succ _)⟩
end Go.Proofs.Ytbjjgcfmdlinaaa
/- Drawn traces: a network and the traces of paths in it. -/
namespace Go.Proofs.Ytbjjgcfmdlinaaa
open Go.RowKit
/-- A network in a box. -/
structure NtC (w : World) (g : Nat) (n : Int) (a : Option Addr) (l c : Nat) : Prop where
  c0 : w.cell? ⟨g, 0, none⟩ = some (.int .i64 n)
  c1 : w.cell? ⟨g, 1, none⟩ = some (.slice a l c)
  f0 : w.frozen? ⟨g, 0, none⟩ = false
  f1 : w.frozen? ⟨g, 1, none⟩ = false
  lt : g < w.heap.size
theorem ntC_new (w : World) (n : Int) (a : Option Addr) (l c : Nat) (t : TypeId) : NtC (w.alloc (.cells #[.int .i64 n, .slice a l c] t)) w.heap.size n a l c := ⟨by go_simp, by go_simp, by go_simp, by go_simp, by simp⟩
theorem NtC.keep {w w' : World} {g : Nat} {n : Int} {a : Option Addr} {l c : Nat} (h : NtC w g n a l c) (hb : w'.heap[g]? = w.heap[g]?) (hs : w.heap.size ≤ w'.heap.size) : NtC w' g n a l c :=
  ⟨(World.cell?_of_block (a := ⟨g, 0, none⟩) hb).trans h.c0, (World.cell?_of_block (a := ⟨g, 1, none⟩) hb).trans h.c1, (World.frozen?_of_block (a := ⟨g, 0, none⟩) hb).trans h.f0, (World.frozen?_of_block (a := ⟨g, 1, none⟩) hb).trans h.f1, Nat.lt_of_lt_of_le h.lt hs⟩
theorem NtC.below {w w' : World} {g : Nat} {n : Int} {a : Option Addr} {l c : Nat} (h : NtC w g n a l c) (hb : Below w.heap.size w w') : NtC w' g n a l c := h.keep (hb.block g h.lt) hb.size
theorem NtC.alloc {w : World} {g : Nat} {n : Int} {a : Option Addr} {l c : Nat} (h : NtC w g n a l c) (o : Obj) : NtC (w.alloc o) g n a l c := h.below ((Below.refl _ _).alloc (Nat.le_refl _) _)
theorem NtC.grown {w w' : World} {g B : Nat} {n : Int} {a : Option Addr} {l c : Nat} (h : NtC w g n a l c) (hg : w.grownBy w' (some B)) (hne : g ≠ B) : NtC w' g n a l c := h.keep (hg.block g h.lt (by simpa using hne)) hg.size
theorem NtC.moved {w w' : World} {g lo hi : Nat} {n : Int} {a : Option Addr} {l c : Nat} (h : NtC w g n a l c) (hm : Moved lo hi w w') (ho : ¬ (lo ≤ g ∧ g < hi)) : NtC w' g n a l c := h.keep (hm.block g h.lt ho) hm.size
/-- What a draw of traces leaves. -/
def DrewTrs (B : Nat) (w : World) (e : Ending) (w' : World) : Prop :=
  ∃ (n : Int) (a : Option Addr) (len cap : Nat) (ls : List (Int × Int)) (gl l c : Nat) (ms : List (List Int)) (lo1 hi1 lo : Nat), IsNd n ∧ len ≤ 7 ∧ l ≤ 4 ∧ (∀ r, r < ms.length → (row ms r).length ≤ 9) ∧ e = .returned (.tuple #[.agg #[.int .i64 n, .slice a len cap], .slice (some ⟨gl, 0, none⟩) l c]) ∧
    OwnL w' lo1 hi1 a len cap ls ∧ OwnT w' lo w'.heap.size (some ⟨gl, 0, none⟩) l c ms ∧ w.heap.size ≤ lo1 ∧ w.heap.size ≤ lo ∧ hi1 ≤ lo ∧ Cur w' B ∧ w.grownBy w' (some B)
theorem rows_more {ms : List (List Int)} {z : List Int} {k : Nat} (h : ∀ r, r < ms.length → (row ms r).length ≤ k) (hz : z.length ≤ k) : ∀ r, r < (ms ++ [z]).length → (row (ms ++ [z]) r).length ≤ k := fun r hr => by
  rw [List.length_append, List.length_singleton] at hr
  by_cases h1 : r < ms.length
  · rw [row_append_left h1]; exact h r h1
  · obtain rfl : r = ms.length := by omega
    rw [row_append_last]; exact hz
set_option maxRecDepth 20000 in
set_option maxHeartbeats 6400000 in
theorem draw13_any (W : World) (B : Nat) (hc : Cur W B) : Calls Try.prog 62 #[.pointer (some ⟨B, 0, none⟩)] W (DrewTrs B W) := by
  have HC0 := Lib.hid hc
  have hB := hc.lt
  clear hc
  obtain ⟨i1, hi1, hz10, hz11, hz12⟩ := info_parts info_trace
  go_enter Try.func62, Try.ntmps62
  go_wp2_with fail
  go_at_call 80
  refine (draw7_any _ B (HC0.out.alloc _)).mono ?_
  rintro e w1 ⟨n, a, len, cap, ls, hnd, ⟨hl1, hl6⟩, rfl, ho1, hc1, hg1⟩
  have HR1 := Lib.hid ((ntC_new W 0 none 0 0 26).grown hg1 (by omega))
  have HG1 := Lib.hid (grown_trans (World.grownBy_alloc W _ _) hg1)
  have HC1 := Lib.hid hc1
  have HO1 := Lib.hid ho1
  have HND := Lib.hid hnd
  have hz1 := HR1.out.lt
  clear hc1 hg1 ho1 hnd
  go_wp2_with fail
  obtain ⟨X, hX⟩ : ∃ X, X = w1.heap.size := ⟨_, rfl⟩
  obtain ⟨V, hV⟩ : ∃ V, V = (w1.alloc (.cells #[.int .i64 n, .slice a len cap] 26)).alloc (.cells #[] 36) := ⟨_, rfl⟩
  have HXV := Lib.hid (show NtC V X n a len cap by rw [hV, hX]; exact (ntC_new w1 n a len cap 26).alloc _)
  have HTV : Hid (OwnT V (X + 1) V.heap.size (some ⟨X + 1, 0, none⟩) 0 0 []) := Lib.hid (by
    have h := ownT_nil0 (w1.alloc (.cells #[.int .i64 n, .slice a len cap] 26))
    rw [World.size_alloc, ← hV, ← hX] at h
    exact h.wide (Nat.le_refl _) h.2.1 (Nat.le_refl _))
  have HRV := Lib.hid (show NtC V W.heap.size 0 none 0 0 by rw [hV]; exact (HR1.out.alloc _).alloc _)
  have HOV := Lib.hid (show OwnL V (W.heap.size + 1) X a len cap ls by
    have h := (HO1.out.alloc (.cells #[.int .i64 n, .slice a len cap] 26)).alloc (.cells #[] 36)
    rw [← hV] at h
    exact h.wide (by simp) (by rw [hX]; exact Nat.le_refl _) (by rw [hV, hX]; simp; omega))
  have HCV := Lib.hid (show Cur V B by rw [hV]; exact (HC1.out.alloc _).alloc _)
  have HGV := Lib.hid (show W.grownBy V (some B) by rw [hV]; exact grown_trans (grown_trans HG1.out (World.grownBy_alloc _ _ _)) (World.grownBy_alloc _ _ _))
  have hWX : W.heap.size < X := by rw [hX]; exact hz1
  rw [← hV, ← hX]
  clear hV hX
  go_at_call 63
  refine (below_any _ B 5 (by decide) HCV.out).mono ?_
  rintro e w2 ⟨m, ⟨hm0, hm1⟩, rfl, hc2, hg2⟩
  have hm4 : m ≤ 4 := by omega
  have HX2 := Lib.hid (HXV.out.grown hg2 (by omega))
  have HT2 := Lib.hid ((HTV.out.moved (moved_grown hg2) (.inr (by omega))).wide (Nat.le_refl _) hg2.size (Nat.le_refl _))
  have HR2 := Lib.hid (HRV.out.grown hg2 (by omega))
  have HO2 := Lib.hid (HOV.out.moved (moved_grown hg2) (.inr (by omega)))
  have HG2 := Lib.hid (grown_trans HGV.out hg2)
  have HC2 := Lib.hid hc2
  clear hm1 hc2 hg2
  go_wp2_with fail
  go_loopw [5, 6, 7] (fun v s _ wr => ∃ (i : Int) (gl l c : Nat) (ms : List (List Int)), 0 ≤ i ∧ i ≤ 4 ∧ (l : Int) + i ≤ 4 ∧ s = .int .i64 i ∧ v = .slice (some ⟨gl, 0, none⟩) l c ∧ Hid (∀ r, r < ms.length → (row ms r).length ≤ 9) ∧ OwnT wr (X + 1) wr.heap.size (some ⟨gl, 0, none⟩) l c ms ∧ NtC wr X n a len cap ∧ NtC wr W.heap.size 0 none 0 0 ∧ OwnL wr (W.heap.size + 1) X a len cap ls ∧ Cur wr B ∧ W.grownBy wr (some B)) (fun _ s _ _ => (intOf s).toNat)
  case atStart => exact ⟨m, X + 1, 0, 0, [], hm0, hm4, by omega, rfl, rfl, Lib.hid (fun r hr => absurd hr (Nat.not_lt_zero _)), HT2.out, HX2.out, HR2.out, HO2.out, HC2.out, HG2.out⟩
  case round =>
    clear HX2 HT2 HR2 HO2 HG2 HC2
    obtain ⟨i, gl, l, c, ms, hi0, hi4, hli, rfl, rfl, hrow, ht, hx, hr, ho, hcu, hg⟩ := hrel
    have HT := Lib.hid ht
    have HX := Lib.hid hx
    have HR := Lib.hid hr
    have HO := Lib.hid ho
    have HC := Lib.hid hcu
    have HG := Lib.hid hg
    have x0 := hx.c0
    have x1 := hx.c1
    have hxl := hx.lt
    have hn16 : n ≤ 16777216 := by have := HND.out.2; omega
    by_cases hpos : 0 < i
    · clear ht hx hr ho hcu hg
      go_wp2_with fail
      go_at_call 63
      refine (below_any _ B n hn16 HC.out).mono ?_
      rintro e w3 ⟨av, hav, rfl, hc3, hg3⟩
      have HAW : Hid ((Lit.int .i64 av).wf = true) := Lib.hid (WalkArith.wf_i64 (by have h9 := HND.out.2; rcases hav with ⟨h0, h1 | ⟨_, h1⟩⟩ <;> omega))
      have HX3 := Lib.hid (HX.out.grown hg3 (by omega))
      have HT3 := Lib.hid ((HT.out.moved (moved_grown hg3) (.inr (by omega))).wide (Nat.le_refl _) hg3.size (Nat.le_refl _))
      have HR3 := Lib.hid (HR.out.grown hg3 (by omega))
      have HO3 := Lib.hid (HO.out.moved (moved_grown hg3) (.inr (by omega)))
      have HG3 := Lib.hid (grown_trans HG.out hg3)
      have HC3 := Lib.hid hc3
      have x0 := HX3.out.c0
      have x1 := HX3.out.c1
      have hxl := HX3.out.lt
      clear hav hc3 hg3
      go_wp2_with fail
      go_region_held3 (fun w' => w'.cell? ⟨X, 0, none⟩ = some (.int .i64 n) ∧ w'.cell? ⟨X, 1, none⟩ = some (.slice a len cap)) (go_keep) (first
        | (go_at_call 63; refine (below_any _ B n hn16 (HC3.out.drewN 1)).mono ?_; rintro e w4 ⟨bv, hbv, rfl, hc4, hg4⟩; have hg4 := grown_trans (grown_drewN w3 1 (some B)) hg4; have HX4 := Lib.hid (HX3.out.grown hg4 (by omega)); have HT4 := Lib.hid ((HT3.out.moved (moved_grown hg4) (.inr (by omega))).wide (Nat.le_refl _) hg4.size (Nat.le_refl _)); have HR4 := Lib.hid (HR3.out.grown hg4 (by omega)); have HO4 := Lib.hid (HO3.out.moved (moved_grown hg4) (.inr (by omega))); have HG4 := Lib.hid (grown_trans HG3.out hg4); have HC4 := Lib.hid hc4; have x0 := HX4.out.c0; have x1 := HX4.out.c1; have hxl := HX4.out.lt; clear hbv hc4 hg4)
        | (go_at_call 81; refine (trace_any _ B n a len cap ls av _ (by omega) HO4.out.sees HAW.out HC4.out).mono ?_; rintro e w5 ⟨at', lt, ct, zt, ht1, ht9, rfl, ho5, hc5, hg5⟩; have hlt : zt.length = lt := ho5.1; subst hlt; have HX5 := Lib.hid (HX4.out.grown hg5 (by omega)); have HT5 := Lib.hid (HT4.out.moved (moved_grown hg5) (.inr (by omega))); have HR5 := Lib.hid (HR4.out.grown hg5 (by omega)); have HO5 := Lib.hid (HO4.out.moved (moved_grown hg5) (.inr (by omega))); have HG5 := Lib.hid (grown_trans HG4.out hg5); have HC5 := Lib.hid hc5; have HZ5 := Lib.hid ho5; have h54 := hg5.size; have x0 := HX5.out.c0; have x1 := HX5.out.c1; have hxl := HX5.out.lt; clear hc5 hg5 ho5)
        | (refine step_append_ownT rfl _ _ 27 rfl i1 Try.underlying27 hi1 hz10 hz11 hz12 _ _ _ rfl w5.heap.size rfl ms (X + 1) w4.heap.size (HT5.out.below ((Below.refl _ _).alloc (Nat.le_refl _) _)) at' ct zt (by simp) w4.heap.size _ (HZ5.out.alloc _) (Nat.le_refl _) (by omega) (by omega) (by simp; omega) ?_; intro g6 c6 w6 ho6 hm6; have HT6 := Lib.hid ho6; have HM6 := Lib.hid hm6; have x0 := ((HX5.out.alloc _).moved hm6 (by omega)).c0; have x1 := ((HX5.out.alloc _).moved hm6 (by omega)).c1; clear ho6 hm6))
      have HX6 := Lib.hid ((HX5.out.alloc (.cells #[.slice at' zt.length ct] 36)).moved HM6.out (by omega))
      have HR6 := Lib.hid ((HR5.out.alloc (.cells #[.slice at' zt.length ct] 36)).moved HM6.out (by omega))
      have HO6 := Lib.hid ((HO5.out.alloc (.cells #[.slice at' zt.length ct] 36)).moved HM6.out (.inl (by omega)))
      have HC6 := Lib.hid ((HC5.out.alloc (.cells #[.slice at' zt.length ct] 36)).below (HM6.out.below (by omega) (by simp; omega)))
      have HG6 := Lib.hid (grown_moved (grown_trans HG5.out (World.grownBy_alloc w5 (.cells #[.slice at' zt.length ct] 36) (some B))) HM6.out (by omega))
      go_wp2_with fail
      go_roundw
      case rel => exact ⟨i - 1, g6, l + 1, c6, ms ++ [zt], by omega, by omega, by omega, by go_num, rfl, Lib.hid (rows_more hrow.out ht9), HT6.out, HX6.out, HR6.out, HO6.out, HC6.out, HG6.out⟩
      case measure => simp [intOf]; omega
    · obtain rfl : i = 0 := by omega
      have r0 := hr.c0
      have r1 := hr.c1
      have rf0 := hr.f0
      have rf1 := hr.f1
      have hm : Moved W.heap.size (W.heap.size + 1) wr ((wr.setCell ⟨W.heap.size, 0, none⟩ (.int .i64 n)).setCell ⟨W.heap.size, 1, none⟩ (.slice a len cap)) := (moved_put _ _ _ _).trans (moved_put _ _ _ _)
      have HM := Lib.hid hm
      clear ht hx hr ho hcu hg hm
      go_wp2
      refine bodyPost_ret (v := .tuple #[.agg #[.int .i64 n, .slice a len cap], .slice (some ⟨gl, 0, none⟩) l c]) (by simp [results, Try.results62, go_sem, r0, r1]) rfl ?_
      exact ⟨n, a, len, cap, ls, gl, l, c, ms, W.heap.size + 1, X, X + 1, HND.out, by omega, by omega, hrow.out, rfl, HO.out.moved HM.out (.inr (Nat.le_refl _)), (HT.out.moved HM.out (.inr (by omega))).wide (Nat.le_refl _) HM.out.size (Nat.le_refl _), Nat.le_succ _, by omega, Nat.le_succ _, HC.out.below (HM.out.below (by omega) (by omega)), grown_moved HG.out HM.out (Nat.le_refl _)⟩
end Go.Proofs.Ytbjjgcfmdlinaaa
/- Drawn traces, perhaps spoilt; with the network. -/
namespace Go.Proofs.Ytbjjgcfmdlinaaa
open Go.RowKit
/-- A spine of slices, and rows that lie elsewhere (perhaps one of them several times). -/
structure SpT (w : World) (lo gl l c : Nat) (ms : List (List Int)) : Prop where
  len : ms.length = l
  lt : gl < w.heap.size
  sp : ∃ A C, w.ownsRow lo 36 1 (.slice (some ⟨gl, 0, none⟩) l c) l (heads A C ms) ∧ ∀ r, r < l → (row ms r).length ≤ C r ∧ C r ≤ maxLen ∧ Sees .i64 w (A r) (row ms r).length (row ms r) ∧ ∀ y, A r = some y → y.block ≠ gl ∧ lo ≤ y.block ∧ y.block < w.heap.size
theorem SpT.of {w : World} {lo hi gl l c : Nat} {ms : List (List Int)} (h : OwnT w lo hi (some ⟨gl, 0, none⟩) l c ms) : SpT w lo gl l c ms := by
  obtain ⟨h1, h2, h3, A, C, h4, h5⟩ := h
  have hb := h3 _ rfl
  simp only at hb
  refine ⟨h1, by omega, A, C, h4, fun r hr => ?_⟩
  obtain ⟨q1, q2⟩ := h5 r (by omega)
  exact ⟨q1.cap, q1.capMax, q1.sees, fun y hy => ⟨(q2 y hy).1 _ rfl, (q1.2.2.2.2 y hy).1, Nat.lt_of_lt_of_le (q1.2.2.2.2 y hy).2 h2⟩⟩
/-- A spine of slices that is seen, all of it from lo up. -/
def AboveM (w : World) (lo gl l : Nat) (ms : List (List Int)) : Prop :=
  ms.length = l ∧ lo ≤ gl ∧ gl < w.heap.size ∧ ∀ r, r < l → ∃ ar cr, w.cell? ⟨gl, r, none⟩ = some (.slice ar (row ms r).length cr) ∧ (row ms r).length ≤ cr ∧ cr ≤ maxLen ∧ Sees .i64 w ar (row ms r).length (row ms r) ∧ ∀ y, ar = some y → lo ≤ y.block
theorem AboveM.sees {w : World} {lo gl l : Nat} {ms : List (List Int)} (h : AboveM w lo gl l ms) : SeesM w (some ⟨gl, 0, none⟩) l ms := by
  obtain ⟨h1, _, h2, h3⟩ := h
  refine ⟨h1, fun r hr => ?_⟩
  obtain ⟨ar, cr, q1, q2, q3, q4, _⟩ := h3 r hr
  exact ⟨gl, 0, ar, cr, rfl, h2, by rw [Nat.zero_add]; exact q1, q2, q3, q4⟩
theorem AboveM.moved {w w' : World} {lo gl l lo2 hi2 : Nat} {ms : List (List Int)} (h : AboveM w lo gl l ms) (hm : Moved lo2 hi2 w w') (ho : hi2 ≤ lo) : AboveM w' lo gl l ms := by
  obtain ⟨h1, h0, h2, h3⟩ := h
  refine ⟨h1, h0, Nat.lt_of_lt_of_le h2 hm.size, fun r hr => ?_⟩
  obtain ⟨ar, cr, q1, q2, q3, q4, q5⟩ := h3 r hr
  exact ⟨ar, cr, (World.cell?_of_block (a := ⟨gl, r, none⟩) (hm.block gl h2 (by omega))).trans q1, q2, q3, q4.moved hm (fun y hy => by have := q5 y hy; omega), q5⟩
theorem AboveM.lower {w : World} {lo lo2 gl l : Nat} {ms : List (List Int)} (h : AboveM w lo gl l ms) (h2 : lo2 ≤ lo) : AboveM w lo2 gl l ms := by
  obtain ⟨h1, h0, h3, h4⟩ := h
  refine ⟨h1, Nat.le_trans h2 h0, h3, fun r hr => ?_⟩
  obtain ⟨ar, cr, q1, q2, q3, q4, q5⟩ := h4 r hr
  exact ⟨ar, cr, q1, q2, q3, q4, fun y hy => Nat.le_trans h2 (q5 y hy)⟩
theorem SpT.above {w : World} {lo gl l c : Nat} {ms : List (List Int)} (h : SpT w lo gl l c ms) : AboveM w lo gl l ms := by
  obtain ⟨h1, h2, A, C, h4, h5⟩ := h
  rcases ownsRow_spot h4 with ⟨h0, _⟩ | ⟨g, hg, hlo, hlt, _, _, hc, _⟩
  · cases h0
  · cases hg
    refine ⟨h1, hlo, h2, fun r hr => ?_⟩
    obtain ⟨q1, q2, q3, q4⟩ := h5 r hr
    exact ⟨A r, C r, by rw [hc r hr, heads_at (by omega)], q1, q2, q3, fun y hy => (q4 y hy).2.1⟩
theorem SpT.head {w : World} {lo gl l c : Nat} {ms : List (List Int)} (h : SpT w lo gl l c ms) (hl : 0 < l) : ∃ ar cr, w.cell? ⟨gl, 0, none⟩ = some (.slice ar (row ms 0).length cr) ∧ (row ms 0).length ≤ cr ∧ cr ≤ maxLen ∧ Sees .i64 w ar (row ms 0).length (row ms 0) ∧ ∀ y, ar = some y → y.block ≠ gl ∧ lo ≤ y.block ∧ y.block < w.heap.size := by
  obtain ⟨h1, h2, A, C, h4, h5⟩ := h
  rcases ownsRow_spot h4 with ⟨h0, _⟩ | ⟨g, hg, _, _, _, _, hc, _⟩
  · cases h0
  · cases hg
    obtain ⟨q1, q2, q3, q4⟩ := h5 0 hl
    exact ⟨A 0, C 0, by rw [hc 0 hl, heads_at (by omega)], q1, q2, q3, q4⟩
/-- The first row goes behind once more. -/
theorem wp_append_spT {P : Program} {w : World} {ops : Array Oper} {rest : List Oper} {o : Oper} {act : Act} {Q : Exit → Act → World → Prop} (hgd : o.guard = none) (s x : Operand) (t : TypeId)
    (ho : o.op = .call { callee := .builtin .append, args := #[s, x], argTypes := #[t, t] }) (i : TypeInfo) (ht : P.underlying t = some (.slice 36)) (hi : P.info? 36 = some i)
    (hz : i.zero = some (.agg #[.slice none 0 0])) (hsize : i.size = 1) (hby : i.bytes = 24) (lo gl l c : Nat) (ms : List (List Int)) (hsv : act.eval s = .slice (some ⟨gl, 0, none⟩) l c) (b : Nat) (hxv : act.eval x = .slice (some ⟨b, 0, none⟩) 1 1) (hsp : SpT w lo gl l c ms)
    (ar : Option Addr) (cr : Nat) (z : List Int) (hc : w.cell? ⟨b, 0, none⟩ = some (.slice ar z.length cr)) (hz1 : z.length ≤ cr) (hz2 : cr ≤ maxLen) (hz3 : Sees .i64 w ar z.length z) (hz4 : ∀ y, ar = some y → y.block ≠ gl ∧ lo ≤ y.block ∧ y.block < w.heap.size) (h63 : l + 1 ≤ 1073741824) (hlo : lo ≤ w.heap.size) (hgl : lo ≤ gl)
    (h : ∀ g cap' w', SpT w' lo g (l + 1) cap' (ms ++ [z]) → lo ≤ g → (g = gl ∨ g = w.heap.size) → Moved gl (gl + 1) w w' → wpList P ops Q rest (act.put o.dst (.slice (some ⟨g, 0, none⟩) (l + 1) cap')) w') : wpList P ops Q (o :: rest) act w := by
  obtain ⟨h1, h2, A, C, h4, h5⟩ := hsp
  obtain ⟨g, cap', w', hr, o1, o2, o3, o4⟩ := run_append_lies (P := P) w t o.type lo 36 i (.agg #[.slice none 0 0]) 1 24 ht hi hz hsize hby rfl (by decide) _ l _ h4 ⟨b, 0, none⟩ 1 1 [.slice ar z.length cr] rfl (fun j u hu => by
      obtain rfl : j = 0 := by have := (List.getElem?_eq_some_iff.1 hu).1; simp at this; omega
      simp at hu
      subst hu
      rw [add_plain]
      exact hc) (fun u hu => by rw [List.mem_singleton] at hu; subst hu; rfl) (by decide) (by unfold maxLen; omega) (by omega) hlo _ rfl
  have hm : Moved gl (gl + 1) w w' := Moved.of_grown o2 (Nat.le_refl _) (Nat.lt_succ_self _)
  have hg : g = gl ∨ g = w.heap.size := by
    rcases o3 with o3 | o3
    · simp only [Value.ownBlock, Option.some.injEq] at o3; exact .inl o3.symm
    · exact .inr o3
  have hsz := o2.size
  refine wpList_plain hgd fun K hK => ?_
  unfold Oper.wp execOp
  simp only [ho, resolve, invoke, builtin, Sem.run_bind, Sem.run_pure, Result.andThen_ok, List.map_toArray, List.map_cons, List.map_nil, hsv, hxv, hr]
  refine hK _ _ (h g cap' w' ⟨by simp [h1], o4, fun r => if r = l then ar else A r, fun r => if r = l then cr else C r, ?_, fun r hr2 => ?_⟩ (by rcases hg with e | e <;> omega) hg hm)
  · have e := heads_append (A := A) (C := C) (ms := ms) (z := z) (ar := ar) (cr := cr)
    rw [h1] at e
    rw [← e]
    exact o1
  · by_cases hrl : r = l
    · subst hrl
      simp only [if_true]
      rw [← h1, row_append_last]
      refine ⟨hz1, hz2, hz3.moved hm (fun y hy => by have := (hz4 y hy).1; omega), fun y hy => ?_⟩
      obtain ⟨y1, y2, y3⟩ := hz4 y hy
      exact ⟨by rcases hg with e | e <;> omega, y2, Nat.lt_of_lt_of_le y3 hsz⟩
    · have hr3 : r < l := by omega
      simp only [hrl, if_false]
      rw [row_append_left (by omega)]
      obtain ⟨q1, q2, q3, q4⟩ := h5 r hr3
      refine ⟨q1, q2, q3.moved hm (fun y hy => by have := (q4 y hy).1; omega), fun y hy => ?_⟩
      obtain ⟨y1, y2, y3⟩ := q4 y hy
      exact ⟨by rcases hg with e | e <;> omega, y2, Nat.lt_of_lt_of_le y3 hsz⟩
theorem SpT.moved {w w' : World} {lo gl l c : Nat} {ms : List (List Int)} {lo2 hi2 : Nat} (h : SpT w lo gl l c ms) (hm : Moved lo2 hi2 w w') (ho : hi2 ≤ lo) : SpT w' lo gl l c ms := by
  obtain ⟨h1, h2, A, C, h4, h5⟩ := h
  refine ⟨h1, Nat.lt_of_lt_of_le h2 hm.size, A, C, ⟨h4.1, ?_⟩, fun r hr => ?_⟩
  · rcases h4.2 with h | ⟨g, c', cur, hv, hlo, hg, rest⟩
    · exact .inl h
    · refine .inr ⟨g, c', cur, hv, hlo, ?_, rest⟩
      rw [hm.block g (Array.getElem?_eq_some_iff.1 hg).1 (by omega)]
      exact hg
  · obtain ⟨q1, q2, q3, q4⟩ := h5 r hr
    exact ⟨q1, q2, q3.moved hm (fun y hy => by have := (q4 y hy).2.1; omega), fun y hy => ⟨(q4 y hy).1, (q4 y hy).2.1, Nat.lt_of_lt_of_le (q4 y hy).2.2 hm.size⟩⟩
/-- The first row alone, in a block of its own; what is left when it is written anew. -/
theorem OwnT.first {w : World} {lo hi gl l c : Nat} {ms : List (List Int)} (h : OwnT w lo hi (some ⟨gl, 0, none⟩) l c ms) (hl : 0 < l) (hpos : 0 < (row ms 0).length) :
    ∃ g0 c0, w.cell? ⟨gl, 0, none⟩ = some (.slice (some ⟨g0, 0, none⟩) (row ms 0).length c0) ∧ w.frozen? ⟨gl, 0, none⟩ = false ∧ OwnB w g0 (row ms 0).length c0 (row ms 0) ∧ g0 ≠ gl ∧ lo ≤ g0 ∧ lo ≤ gl ∧ gl < w.heap.size ∧
      ∀ w' a' c' zs', Moved g0 (g0 + 1) w w' → Own .i64 3 w' g0 w'.heap.size a' zs'.length c' zs' → (∀ y, a' = some y → y.block ≠ gl) → AboveM (w'.setCell ⟨gl, 0, none⟩ (.slice a' zs'.length c')) lo gl l (ms.set 0 zs') := by
  obtain ⟨h1, h2, h3, A, C, h4, h5⟩ := h
  have hb := h3 _ rfl
  simp only at hb
  rcases ownsRow_spot h4 with ⟨h0, _⟩ | ⟨g, hg, _, _, _, _, hc, hf⟩
  · cases h0
  cases hg
  obtain ⟨q1, q2⟩ := h5 0 (by omega)
  rcases q1.spot with ⟨_, hx, _⟩ | ⟨g0, ha0, hg0, hg1, _⟩
  · omega
  have hc0 := hc 0 hl
  rw [heads_at (by omega), ha0] at hc0
  have hne : g0 ≠ gl := (q2 _ ha0).1 _ rfl
  have hob : OwnB w g0 (row ms 0).length (C 0) (row ms 0) := by
    refine ⟨q1.1, q1.2.1, by have := q1.2.2.1; omega, ⟨q1.2.2.2.1.1, ?_⟩, fun x hx => by cases hx; exact ⟨Nat.le_refl _, Nat.lt_succ_self _⟩⟩
    rcases q1.2.2.2.1.2 with ⟨hv, hn⟩ | ⟨g', c', cur, hv, hlo', rest⟩
    · rw [ha0] at hv; cases hv
    · rw [ha0] at hv
      cases hv
      exact .inr ⟨g0, C 0, cur, rfl, Nat.le_refl _, rest⟩
  refine ⟨g0, C 0, hc0, hf 0, hob, hne, hg0, hb.1, by omega, fun w' a' c' zs' hm hn hna => ?_⟩
  have hglw : gl < w.heap.size := by omega
  have hcell : ∀ j, w'.cell? ⟨gl, j, none⟩ = w.cell? ⟨gl, j, none⟩ := fun j => World.cell?_of_block (a := ⟨gl, j, none⟩) (hm.block gl hglw (by omega))
  have hm2 := moved_put w' gl 0 (.slice a' zs'.length c')
  refine ⟨by rw [List.length_set]; exact h1, hb.1, Nat.lt_of_lt_of_le hglw (Nat.le_trans hm.size hm2.size), fun r hr => ?_⟩
  by_cases hr0 : r = 0
  · subst hr0
    have hrow : row (ms.set 0 zs') 0 = zs' := by simp [row, List.getD, show 0 < ms.length by omega]
    rw [hrow]
    refine ⟨a', c', ?_, hn.cap, hn.capMax, hn.sees.moved hm2 (fun y hy => by have := hna y hy; omega), fun y hy => by have := (hn.2.2.2.2 y hy).1; omega⟩
    exact World.cell?_setCell_same _ _ _ ((hcell 0).trans hc0)
  · have hrow : row (ms.set 0 zs') r = row ms r := by simp [row, List.getD, Ne.symm hr0]
    rw [hrow]
    obtain ⟨p1, p2⟩ := h5 r (by omega)
    refine ⟨A r, C r, ?_, p1.cap, p1.capMax, (p1.sees.moved hm (fun y hy => ?_)).moved hm2 (fun y hy => ?_), fun y hy => (p1.2.2.2.2 y hy).1⟩
    · rw [World.cell?_setCell_other _ _ _ _ (by simp <;> omega), hcell r, hc r hr, heads_at (by omega)]
    · have := (p2 y hy).2 0 (by omega) (by omega) _ ha0
      simp only at this
      omega
    · have := (p2 y hy).1 _ rfl
      simp only at this
      omega
def lenS : Value → Nat
  | .slice _ n _ => n
  | _ => 0
theorem NtC.put2 {w : World} {g : Nat} {n : Int} {a : Option Addr} {l c : Nat} (h : NtC w g n a l c) (n' : Int) (a' : Option Addr) (l' c' : Nat) : NtC ((w.setCell ⟨g, 0, none⟩ (.int .i64 n')).setCell ⟨g, 1, none⟩ (.slice a' l' c')) g n' a' l' c' := by
  have e1 : (w.setCell ⟨g, 0, none⟩ (.int .i64 n')).cell? ⟨g, 1, none⟩ = some (.slice a l c) := by rw [World.cell?_setCell_other _ _ _ _ (by simp)]; exact h.c1
  exact ⟨by rw [World.cell?_setCell_other _ _ _ _ (by simp)]; exact World.cell?_setCell_same _ _ _ h.c0, World.cell?_setCell_same _ _ _ e1, by rw [World.frozen?_setCell, World.frozen?_setCell]; exact h.f0, by rw [World.frozen?_setCell, World.frozen?_setCell]; exact h.f1, by simpa [World.setCell] using h.lt⟩
theorem OwnT.above {w : World} {lo hi gl l c : Nat} {ms : List (List Int)} (h : OwnT w lo hi (some ⟨gl, 0, none⟩) l c ms) : AboveM w lo gl l ms := (SpT.of h).above
/-- What a draw of traces, perhaps spoilt, leaves. -/
def DrewAnyT (B : Nat) (w : World) (e : Ending) (w' : World) : Prop :=
  ∃ (n : Int) (a : Option Addr) (len cap : Nat) (ls : List (Int × Int)) (gl l c : Nat) (ms : List (List Int)), IsNd n ∧ len ≤ 7 ∧ l ≤ 9 ∧ (∀ r, r < ms.length → (row ms r).length ≤ 10) ∧ e = .returned (.tuple #[.agg #[.int .i64 n, .slice a len cap], .slice (some ⟨gl, 0, none⟩) l c]) ∧
    SeesL w' a len ls ∧ (∀ y, a = some y → w.heap.size ≤ y.block) ∧ AboveM w' w.heap.size gl l ms ∧ w.grownBy w' (some B)
theorem rows_set {ms : List (List Int)} {z : List Int} {k m : Nat} (h : ∀ r, r < ms.length → (row ms r).length ≤ k) (hz : z.length ≤ m) (hkm : k ≤ m) : ∀ r, r < (ms.set 0 z).length → (row (ms.set 0 z) r).length ≤ m := fun r hr => by
  rw [List.length_set] at hr
  by_cases h0 : r = 0
  · subst h0
    simp [row, List.getD, hr, hz]
  · have := h r hr
    simp [row, List.getD, Ne.symm h0] at this ⊢
    omega
theorem cells_apart {w : World} {g gl j : Nat} {x : Int} {a : Option Addr} {l c : Nat} (h1 : w.cell? ⟨g, j, none⟩ = some (.int .i64 x)) (h2 : w.cell? ⟨gl, j, none⟩ = some (.slice a l c)) : g ≠ gl := fun e => by
  subst e
  rw [h1] at h2
  cases h2
theorem OwnT.refit {w : World} {lo hi gl l c : Nat} {ms : List (List Int)} (h : OwnT w lo hi (some ⟨gl, 0, none⟩) l c ms) (hl : 0 < l) (hpos : 0 < (row ms 0).length) {g0 k0 c0 : Nat} (hc : w.cell? ⟨gl, 0, none⟩ = some (.slice (some ⟨g0, 0, none⟩) k0 c0)) :
    OwnB w g0 (row ms 0).length c0 (row ms 0) ∧ g0 ≠ gl ∧ lo ≤ g0 ∧ ∀ w' a' c' zs', Moved g0 (g0 + 1) w w' → Own .i64 3 w' g0 w'.heap.size a' zs'.length c' zs' → (∀ y, a' = some y → y.block ≠ gl) → AboveM (w'.setCell ⟨gl, 0, none⟩ (.slice a' zs'.length c')) lo gl l (ms.set 0 zs') := by
  obtain ⟨g1, c1, hc1, _, h1, h2, h3, _, _, h4⟩ := h.first hl hpos
  rw [hc] at hc1
  injection hc1 with hc1
  injection hc1 with e1 _ e3
  injection e1 with e1
  injection e1 with e1
  subst e1; subst e3
  exact ⟨h1, h2, h3, h4⟩
theorem OwnT.poke {w : World} {lo hi gl l c : Nat} {ms : List (List Int)} (h : OwnT w lo hi (some ⟨gl, 0, none⟩) l c ms) (hl : 0 < l) (hlo : lo ≤ w.heap.size) {g0 k0 c0 : Nat} (hc : w.cell? ⟨gl, 0, none⟩ = some (.slice (some ⟨g0, 0, none⟩) k0 c0)) {y : Int} (hy : (Lit.int .i64 y).wf = true) :
    AboveM (w.setCell ⟨g0, 0, none⟩ (.int .i64 y)) lo gl l (ms.set 0 ((row ms 0).set 0 y)) := by
  obtain ⟨g, ai, ci, l2, h2, hg, hcell, hown, hall⟩ := h.inner 0 hl hlo
  cases hg
  rw [hc] at hcell
  injection hcell with e
  injection e with e1 e2 e3
  subst e1; subst e3
  have hst := hown.stored 0 y hy
  exact (hall _ _ hst.1 hst.2).1.above
theorem SpT.alloc {w : World} {lo gl l c : Nat} {ms : List (List Int)} (h : SpT w lo gl l c ms) (o : Obj) : SpT (w.alloc o) lo gl l c ms :=
  h.moved (Moved.of_below (lo := lo) (hi := lo) ((Below.refl _ _).alloc (Nat.le_refl _) o)) (Nat.le_refl _)
set_option maxRecDepth 20000 in
set_option maxHeartbeats 12800000 in
theorem any13_any (W : World) (B : Nat) (hc : Cur W B) : Calls Try.prog 36 #[.pointer (some ⟨B, 0, none⟩)] W (DrewAnyT B W) := by
  have HC0 := Lib.hid hc
  have hB := hc.lt
  clear hc
  obtain ⟨i0, hi, hz0, hzs, hz2⟩ := info_parts info_i64
  obtain ⟨i1, hi1, hz10, hz11, hz12⟩ := info_parts info_trace
  go_enter Try.func36, Try.ntmps36
  go_wp2_with fail
  go_at_call 62
  refine (draw13_any _ B (HC0.out.alloc _)).mono ?_
  rintro e w1 ⟨n, a, len, cap, ls, gl, l, c, ms, lo1, hi2, lo, hnd, hl7, hl4, hrow, rfl, ho1, ht1, hlo1, hlo, hhi, hc1, hg1⟩
  rw [World.size_alloc] at hlo1 hlo
  have HR1 := Lib.hid ((ntC_new W 0 none 0 0 26).grown hg1 (by omega))
  have HG1 := Lib.hid (grown_trans (World.grownBy_alloc W _ _) hg1)
  have HC1 := Lib.hid hc1
  have HO1 := Lib.hid ho1
  have HT1 := Lib.hid ht1
  have HND := Lib.hid hnd
  have HROW := Lib.hid hrow
  have hz1 := HR1.out.lt
  have hhs := ho1.2.2.1
  clear hc1 hg1 ho1 ht1 hnd hrow
  obtain ⟨V, hV⟩ : ∃ V, V = w1.alloc (.cells #[.int .i64 n, .slice a len cap] 26) := ⟨_, rfl⟩
  obtain ⟨X, hX⟩ : ∃ X, X = w1.heap.size := ⟨_, rfl⟩
  have HXV := Lib.hid (show NtC V X n a len cap by rw [hV, hX]; exact ntC_new _ _ _ _ _ _)
  have HRV := Lib.hid (show NtC V W.heap.size 0 none 0 0 by rw [hV]; exact HR1.out.alloc _)
  have HOV := Lib.hid (show OwnL V lo1 hi2 a len cap ls by rw [hV]; exact HO1.out.alloc _)
  have HTV := Lib.hid (show OwnT V lo X (some ⟨gl, 0, none⟩) l c ms by rw [hV, hX]; exact HT1.out.below ((Below.refl _ _).alloc (Nat.le_refl _) _))
  have HCV := Lib.hid (show Cur V B by rw [hV]; exact HC1.out.alloc _)
  have HGV := Lib.hid (show W.grownBy V (some B) by rw [hV]; exact grown_trans HG1.out (World.grownBy_alloc _ _ _))
  have hWX : W.heap.size < X := by rw [hX]; exact hz1
  have hsV : V.heap.size = X + 1 := by rw [hV, hX]; simp
  have hlen : ms.length = l := HTV.out.1
  have hgb := HTV.out.2.2.1 _ rfl
  simp only at hgb
  have HVX := Lib.hid (And.intro hV hX)
  have hsp := SpT.of HT1.out
  have hgw : gl < w1.heap.size := hsp.lt
  have r0 := HR1.out.c0
  have r1 := HR1.out.c1
  have rf0 := HR1.out.f0
  have rf1 := HR1.out.f1
  have h9 : ∀ r, r < ms.length → (row ms r).length ≤ 10 := fun r hr => Nat.le_trans (HROW.out r hr) (by decide)
  have H9 := Lib.hid h9
  have HSP := Lib.hid hsp
  have HAV := Lib.hid hsp.above
  clear h9 hsp hV hX hsV hgb
  by_cases hl0 : l = 0
  · clear HTV HSP HXV HRV HOV HCV HGV hWX
    subst hl0
    have hmR : Moved W.heap.size (W.heap.size + 1) w1 ((w1.setCell ⟨W.heap.size, 0, none⟩ (.int .i64 n)).setCell ⟨W.heap.size, 1, none⟩ (.slice a len cap)) := (moved_put _ _ _ _).trans (moved_put _ _ _ _)
    have HMR := Lib.hid hmR
    have HAL := Lib.hid (Below.alloc (Below.refl ((w1.setCell ⟨W.heap.size, 0, none⟩ (.int .i64 n)).setCell ⟨W.heap.size, 1, none⟩ (.slice a len cap)).heap.size _) (Nat.le_refl _) (.cells #[.int .i64 n, .slice a len cap] 26))
    clear hmR
    have q := (HR1.out.put2 n a len cap).alloc (.cells #[.int .i64 n, .slice a len cap] 26)
    have q0 := q.c0
    have q1 := q.c1
    have QQ := Lib.hid (And.intro q0 q1)
    clear q0 q1 q
    go_wp2
    refine bodyPost_ret (v := .tuple #[.agg #[.int .i64 n, .slice a len cap], .slice (some ⟨gl, 0, none⟩) 0 c]) (by simp [results, Try.results36, go_sem, QQ.out.1, QQ.out.2]) rfl ?_
    exact ⟨n, a, len, cap, ls, gl, 0, c, ms, HND.out, hl7, by omega, H9.out, rfl, ((HO1.out.moved HMR.out (.inr hlo1)).below HAL.out).sees, fun y hy => Nat.le_of_lt (Nat.lt_of_lt_of_le hlo1 (HO1.out.2.2.2.2 y hy).1), ((HAV.out.moved HMR.out hlo).moved (Moved.of_below (lo := lo) (hi := lo) HAL.out) (Nat.le_refl _)).lower (Nat.le_of_lt hlo), grown_trans (grown_moved HG1.out HMR.out (Nat.le_refl _)) (World.grownBy_alloc _ _ _)⟩
  · obtain ⟨ar, cr, hcell, hcr1, hcr2, hsr, hyr⟩ := HSP.out.head (by omega)
    have hl1 : (0 : Int) < (l : Int) := by omega
    have hl3 : ((l : Int) == 0) = false := by simp; omega
    by_cases hr0 : (row ms 0).length = 0
    · rw [hr0] at hcell
      clear HTV HSP hsr hyr hcr1 hcr2 HXV HRV HOV HCV HGV hWX
      have hmR : Moved W.heap.size (W.heap.size + 1) w1 ((w1.setCell ⟨W.heap.size, 0, none⟩ (.int .i64 n)).setCell ⟨W.heap.size, 1, none⟩ (.slice a len cap)) := (moved_put _ _ _ _).trans (moved_put _ _ _ _)
      have HMR := Lib.hid hmR
      have HAL := Lib.hid (Below.alloc (Below.refl ((w1.setCell ⟨W.heap.size, 0, none⟩ (.int .i64 n)).setCell ⟨W.heap.size, 1, none⟩ (.slice a len cap)).heap.size _) (Nat.le_refl _) (.cells #[.int .i64 n, .slice a len cap] 26))
      clear hmR
      have q := (HR1.out.put2 n a len cap).alloc (.cells #[.int .i64 n, .slice a len cap] 26)
      have q0 := q.c0
      have q1 := q.c1
      have QQ := Lib.hid (And.intro q0 q1)
      clear q0 q1 q
      go_wp2
      refine bodyPost_ret (v := .tuple #[.agg #[.int .i64 n, .slice a len cap], .slice (some ⟨gl, 0, none⟩) l c]) (by simp [results, Try.results36, go_sem, QQ.out.1, QQ.out.2]) rfl ?_
      exact ⟨n, a, len, cap, ls, gl, l, c, ms, HND.out, hl7, by omega, H9.out, rfl, ((HO1.out.moved HMR.out (.inr hlo1)).below HAL.out).sees, fun y hy => Nat.le_of_lt (Nat.lt_of_lt_of_le hlo1 (HO1.out.2.2.2.2 y hy).1), ((HAV.out.moved HMR.out hlo).moved (Moved.of_below (lo := lo) (hi := lo) HAL.out) (Nat.le_refl _)).lower (Nat.le_of_lt hlo), grown_trans (grown_moved HG1.out HMR.out (Nat.le_refl _)) (World.grownBy_alloc _ _ _)⟩
    · have hpos : 0 < (row ms 0).length := by omega
      obtain ⟨g0, c0, hcell2, _, hob, hne, hg0lo, hgllo, _, _⟩ := HT1.out.first (by omega) hpos
      have hg0X : g0 < X := by rw [HVX.out.2]; exact hob.lt
      rw [hcell] at hcell2
      injection hcell2 with e
      injection e with e1 _ e3
      subst e1
      subst e3
      obtain ⟨k0, hk0⟩ : ∃ k0, k0 = (row ms 0).length := ⟨_, rfl⟩
      have hk3 : ((k0 : Int) == 0) = false := by simp; omega
      rw [← hk0] at hcell
      have HK0 := Lib.hid hk0
      have HPOS := Lib.hid hpos
      have HCELL : Hid (V.cell? ⟨gl, 0, none⟩ = some (.slice (some ⟨g0, 0, none⟩) k0 cr)) := Lib.hid (by rw [HVX.out.1, World.cell?_of_block (a := ⟨gl, 0, none⟩) (w := w1) (((Below.refl w1.heap.size w1).alloc (Nat.le_refl _) _).block gl hgw)]; exact hcell)
      clear hk0 hsr hyr hcr1 hcr2 hr0 hpos hob
      go_wp2_with fail
      rw [← HVX.out.1, ← HVX.out.2]
      clear r0 r1 rf0 rf1 hcell
      go_at_call 63
      refine (below_any _ B 8 (by decide) HCV.out).mono ?_
      rintro e w2 ⟨m, ⟨hm0, hm1⟩, rfl, hc2, hg2⟩
      have hsz2 := hg2.size
      have HX2 := Lib.hid (HXV.out.grown hg2 (by omega))
      have HT2 := Lib.hid (HTV.out.moved (moved_grown hg2) (.inr (by omega)))
      have HR2 := Lib.hid (HRV.out.grown hg2 (by omega))
      have HO2 := Lib.hid (HOV.out.moved (moved_grown hg2) (.inr (by omega)))
      have HG2 := Lib.hid (grown_trans HGV.out hg2)
      have hcell := (World.cell?_of_block (a := ⟨gl, 0, none⟩) (hg2.block gl (by have := HXV.out.lt; have := HVX.out.2; omega) (by simp; omega))).trans HCELL.out
      have HC2 := Lib.hid hc2
      have x0 := HX2.out.c0
      have x1 := HX2.out.c1
      have r0 := HR2.out.c0
      have r1 := HR2.out.c1
      have rf0 := HR2.out.f0
      have rf1 := HR2.out.f1
      have HCELL2 := Lib.hid hcell
      have hglX : gl < X := by rw [HVX.out.2]; exact hgw
      clear hc2 hg2
      by_cases hm00 : m = 0
      · subst hm00
        have hnB : w2.heap.size ≠ B := by have := HX2.out.lt; omega
        have hl0n : 0 < l := by omega
        have hk0n : 0 < k0 := by have := HPOS.out; have := HK0.out; omega
        have hl0i : (0 : Int) < (l : Int) := by omega
        have hk0i : (0 : Int) < (k0 : Int) := by have := HPOS.out; have := HK0.out; omega
        clear x0 x1 r0 r1 rf0 rf1
        go_wp2_with fail
        go_region_held3 (fun w' => w'.cell? ⟨gl, 0, none⟩ = some (.slice (some ⟨g0, 0, none⟩) k0 cr)) (go_keep) (first
          | (go_at_call 64; refine (int_any _ B w2.heap.size 3 [-2, 8, 0] rfl (by decide) (by decide) (fun j hj => by rw [World.cell?_drewN]; exact intsAt_new w2 [-2, 8, 0] _ _ rfl j hj) hnB ((HC2.out.alloc _).drewN 1)).mono ?_; rintro e w3 ⟨y, hy, rfl, hc3, hg3⟩; have hg3 := grown_trans (grown_trans (World.grownBy_alloc w2 _ (some B)) (grown_drewN _ 1 (some B))) hg3; have HYW : Hid ((Lit.int .i64 y).wf = true) := Lib.hid ((show ∀ y ∈ [(-2 : Int), 8, 0], (Lit.int .i64 y).wf = true by decide) _ hy); have hsz3 := hg3.size; have HX3 := Lib.hid (HX2.out.grown hg3 (by omega)); have HT3 := Lib.hid (HT2.out.moved (moved_grown hg3) (.inr (by omega))); have HR3 := Lib.hid (HR2.out.grown hg3 (by omega)); have HO3 := Lib.hid (HO2.out.moved (moved_grown hg3) (.inr (by omega))); have HG3 := Lib.hid (grown_trans HG2.out hg3); have hcell := (World.cell?_of_block (a := ⟨gl, 0, none⟩) (hg3.block gl (by have := HX2.out.lt; omega) (by simp; omega))).trans HCELL2.out; have HCELL3 := Lib.hid hcell; have HOB3 := Lib.hid ((HT3.out.refit (by omega) HPOS.out hcell).1); have s0 := (HOB3.out.spot).2.2.2.1 0 HPOS.out; have sf := (HOB3.out.spot).2.2.2.2 0; clear hy hc3 hg3))
        obtain ⟨w4, hw4⟩ : ∃ w4, w4 = w3.setCell ⟨g0, 0, none⟩ (.int .i64 y) := ⟨_, rfl⟩
        have hm4 : Moved g0 (g0 + 1) w3 w4 := by rw [hw4]; exact moved_put _ _ _ _
        have HAV4 : Hid (AboveM w4 lo gl l (ms.set 0 ((row ms 0).set 0 y))) := Lib.hid (by rw [hw4]; exact HT3.out.poke (by omega) (by have := HX3.out.lt; omega) HCELL3.out HYW.out)
        have HX4 := Lib.hid (HX3.out.moved hm4 (by omega))
        have HR4 := Lib.hid (HR3.out.moved hm4 (by omega))
        have HO4 := Lib.hid (HO3.out.moved hm4 (.inl (by omega)))
        have HG4 := Lib.hid (grown_moved HG3.out hm4 (by omega))
        have HROW4 := Lib.hid (rows_set (m := 10) (z := (row ms 0).set 0 y) HROW.out (by rw [List.length_set]; exact Nat.le_trans (HROW.out 0 (by omega)) (by decide)) (by decide))
        rw [← hw4]
        have x0 := HX4.out.c0
        have x1 := HX4.out.c1
        have r0 := HR4.out.c0
        have r1 := HR4.out.c1
        have rf0 := HR4.out.f0
        have rf1 := HR4.out.f1
        clear hw4 hm4 s0 sf hcell
        have hmR : Moved W.heap.size (W.heap.size + 1) w4 ((w4.setCell ⟨W.heap.size, 0, none⟩ (.int .i64 n)).setCell ⟨W.heap.size, 1, none⟩ (.slice a len cap)) := (moved_put _ _ _ _).trans (moved_put _ _ _ _)
        have HMR := Lib.hid hmR
        clear hmR
        go_wp2
        refine bodyPost_ret (v := .tuple #[.agg #[.int .i64 n, .slice a len cap], .slice (some ⟨gl, 0, none⟩) l c]) (by simp [results, Try.results36, go_sem, r0, r1]) rfl ?_
        exact ⟨n, a, len, cap, ls, gl, l, c, (ms.set 0 ((row ms 0).set 0 y)), HND.out, hl7, (by omega), HROW4.out, rfl, (HO4.out.moved HMR.out (.inr hlo1)).sees, fun y hy => Nat.le_of_lt (Nat.lt_of_lt_of_le hlo1 (HO4.out.2.2.2.2 y hy).1), (HAV4.out.moved HMR.out hlo).lower (Nat.le_of_lt hlo), grown_moved HG4.out HMR.out (Nat.le_refl _)⟩
      · have hm03 : (m == 0) = false := by simp; omega
        by_cases hm10 : m = 1
        · subst hm10
          have hl0i : (0 : Int) < (l : Int) := by omega
          have hl0n : 0 < l := by omega
          have hk9 : k0 ≤ 9 := by rw [HK0.out]; exact HROW.out 0 (by omega)
          have hkr : (row ms 0).length ≤ 9 := HROW.out 0 (by omega)
          rw [HK0.out] at hcell
          have HCELL2 := Lib.hid hcell
          clear x0 x1 r0 r1 rf0 rf1
          go_wp2_with fail
          go_region_law (first
            | (go_simp; go_at_call 63; refine (below_any _ B 9 (by decide) HC2.out).mono ?_; rintro e w3 ⟨v0, ⟨hv0, hv1⟩, rfl, hc3, hg3⟩; have hv1 : v0 ≤ 8 := (by omega); have wv : IntKind.i64.wrap (v0 - 1) = v0 - 1 := IntWalk.i64_in _ (by omega); have HVW : Hid ((Lit.int .i64 (v0 - 1)).wf = true) := Lib.hid (WalkArith.wf_i64 (by omega)); have hsz3 := hg3.size; have HX3 := Lib.hid (HX2.out.grown hg3 (by omega)); have HT3 := Lib.hid (HT2.out.moved (moved_grown hg3) (.inr (by omega))); have HR3 := Lib.hid (HR2.out.grown hg3 (by omega)); have HO3 := Lib.hid (HO2.out.moved (moved_grown hg3) (.inr (by omega))); have HG3 := Lib.hid (grown_trans HG2.out hg3); have hgl3 : gl < w3.heap.size := (by have := HX3.out.lt; omega); have hg03 : g0 < w3.heap.size := (by have := HX3.out.lt; omega); have hcell := (World.cell?_of_block (a := ⟨gl, 0, none⟩) (hg3.block gl (by have := HX2.out.lt; omega) (by simp; omega))).trans HCELL2.out; have HCELL3 := Lib.hid hcell; have hcella := (((Below.refl w3.heap.size w3).alloc (Nat.le_refl _) (.cells #[.int .i64 (v0 - 1)] 3)).cell (p := ⟨gl, 0, none⟩) hgl3).trans hcell; clear hc3 hg3)
            | (go_simp; go_at_call 63; refine (below_any _ B 9 (by decide) (HC2.out.drewN 1)).mono ?_; rintro e w3 ⟨v0, ⟨hv0, hv1⟩, rfl, hc3, hg3⟩; have hg3 := grown_trans (grown_drewN w2 1 (some B)) hg3; have hv1 : v0 ≤ 8 := (by omega); have wv : IntKind.i64.wrap (v0 - 1) = v0 - 1 := IntWalk.i64_in _ (by omega); have HVW : Hid ((Lit.int .i64 (v0 - 1)).wf = true) := Lib.hid (WalkArith.wf_i64 (by omega)); have hsz3 := hg3.size; have HX3 := Lib.hid (HX2.out.grown hg3 (by omega)); have HT3 := Lib.hid (HT2.out.moved (moved_grown hg3) (.inr (by omega))); have HR3 := Lib.hid (HR2.out.grown hg3 (by omega)); have HO3 := Lib.hid (HO2.out.moved (moved_grown hg3) (.inr (by omega))); have HG3 := Lib.hid (grown_trans HG2.out hg3); have hgl3 : gl < w3.heap.size := (by have := HX3.out.lt; omega); have hg03 : g0 < w3.heap.size := (by have := HX3.out.lt; omega); have hcell := (World.cell?_of_block (a := ⟨gl, 0, none⟩) (hg3.block gl (by have := HX2.out.lt; omega) (by simp; omega))).trans HCELL2.out; have HCELL3 := Lib.hid hcell; have hcella := (((Below.refl w3.heap.size w3).alloc (Nat.le_refl _) (.cells #[.int .i64 (v0 - 1)] 3)).cell (p := ⟨gl, 0, none⟩) hgl3).trans hcell; clear hc3 hg3)
            | (refine step_append_sees rfl _ _ 34 rfl 3 i0 .i64 8 Try.underlying34 hi hz0 hzs hz2 _ _ _ _ rfl g0 _ ((HT3.out.below ((Below.refl w3.heap.size w3).alloc (Nat.le_refl _) (.cells #[.int .i64 (v0 - 1)] 3))).refit (by omega) HPOS.out ((((Below.refl w3.heap.size w3).alloc (Nat.le_refl _) (.cells #[.int .i64 (v0 - 1)] 3)).cell (p := ⟨gl, 0, none⟩) hgl3).trans HCELL3.out)).1 _ 1 1 [v0 - 1] rfl (sees_one HVW.out _ _) (by unfold maxLen; omega) (by omega) (by simp; omega) ?_; intro a4 len4 cap4 w4 hlen4 ho4 hm4; subst hlen4; have HA4 := Lib.hid (((HT3.out.below ((Below.refl w3.heap.size w3).alloc (Nat.le_refl _) (.cells #[.int .i64 (v0 - 1)] 3))).refit (by omega) HPOS.out ((((Below.refl w3.heap.size w3).alloc (Nat.le_refl _) (.cells #[.int .i64 (v0 - 1)] 3)).cell (p := ⟨gl, 0, none⟩) hgl3).trans HCELL3.out)).2.2.2 w4 a4 cap4 (row ms 0 ++ [v0 - 1]) hm4); have HL4 := Lib.hid ho4; have HX4 := Lib.hid ((HX3.out.below ((Below.refl w3.heap.size w3).alloc (Nat.le_refl _) (.cells #[.int .i64 (v0 - 1)] 3))).moved hm4 (by omega)); have HR4 := Lib.hid ((HR3.out.below ((Below.refl w3.heap.size w3).alloc (Nat.le_refl _) (.cells #[.int .i64 (v0 - 1)] 3))).moved hm4 (by omega)); have HO4 := Lib.hid ((HO3.out.below ((Below.refl w3.heap.size w3).alloc (Nat.le_refl _) (.cells #[.int .i64 (v0 - 1)] 3))).moved hm4 (.inl (by omega))); have HG4 := Lib.hid (grown_moved (grown_trans HG3.out (grown_of_below ((Below.refl w3.heap.size w3).alloc (Nat.le_refl _) (.cells #[.int .i64 (v0 - 1)] 3)) (some B))) hm4 (by omega)); have hcell := (World.cell?_of_block (a := ⟨gl, 0, none⟩) (hm4.block gl (Nat.lt_of_lt_of_le hgl3 ((Below.refl w3.heap.size w3).alloc (Nat.le_refl _) (.cells #[.int .i64 (v0 - 1)] 3)).size) (by omega))).trans ((((Below.refl w3.heap.size w3).alloc (Nat.le_refl _) (.cells #[.int .i64 (v0 - 1)] 3)).cell (p := ⟨gl, 0, none⟩) hgl3).trans HCELL3.out); have HCELL4 := Lib.hid hcell; have hfr := (World.frozen?_of_block (a := ⟨gl, 0, none⟩) (hm4.block gl (Nat.lt_of_lt_of_le hgl3 ((Below.refl w3.heap.size w3).alloc (Nat.le_refl _) (.cells #[.int .i64 (v0 - 1)] 3)).size) (by omega))).trans ((HT3.out.below ((Below.refl w3.heap.size w3).alloc (Nat.le_refl _) (.cells #[.int .i64 (v0 - 1)] 3))).first (by omega) HPOS.out).choose_spec.choose_spec.2.1; clear ho4 hm4)
            | (refine step_append_sees rfl _ _ 34 rfl 3 i0 .i64 8 Try.underlying34 hi hz0 hzs hz2 _ _ _ _ rfl g0 _ ((HT3.out.below ((Below.refl w3.heap.size w3).drew.alloc (Nat.le_refl _) (.cells #[.int .i64 (v0 - 1)] 3))).refit (by omega) HPOS.out ((((Below.refl w3.heap.size w3).drew.alloc (Nat.le_refl _) (.cells #[.int .i64 (v0 - 1)] 3)).cell (p := ⟨gl, 0, none⟩) hgl3).trans HCELL3.out)).1 _ 1 1 [v0 - 1] rfl (sees_one HVW.out _ _) (by unfold maxLen; omega) (by omega) (by simp; omega) ?_; intro a4 len4 cap4 w4 hlen4 ho4 hm4; subst hlen4; have HA4 := Lib.hid (((HT3.out.below ((Below.refl w3.heap.size w3).drew.alloc (Nat.le_refl _) (.cells #[.int .i64 (v0 - 1)] 3))).refit (by omega) HPOS.out ((((Below.refl w3.heap.size w3).drew.alloc (Nat.le_refl _) (.cells #[.int .i64 (v0 - 1)] 3)).cell (p := ⟨gl, 0, none⟩) hgl3).trans HCELL3.out)).2.2.2 w4 a4 cap4 (row ms 0 ++ [v0 - 1]) hm4); have HL4 := Lib.hid ho4; have HX4 := Lib.hid ((HX3.out.below ((Below.refl w3.heap.size w3).drew.alloc (Nat.le_refl _) (.cells #[.int .i64 (v0 - 1)] 3))).moved hm4 (by omega)); have HR4 := Lib.hid ((HR3.out.below ((Below.refl w3.heap.size w3).drew.alloc (Nat.le_refl _) (.cells #[.int .i64 (v0 - 1)] 3))).moved hm4 (by omega)); have HO4 := Lib.hid ((HO3.out.below ((Below.refl w3.heap.size w3).drew.alloc (Nat.le_refl _) (.cells #[.int .i64 (v0 - 1)] 3))).moved hm4 (.inl (by omega))); have HG4 := Lib.hid (grown_moved (grown_trans HG3.out (grown_of_below ((Below.refl w3.heap.size w3).drew.alloc (Nat.le_refl _) (.cells #[.int .i64 (v0 - 1)] 3)) (some B))) hm4 (by omega)); have hcell := (World.cell?_of_block (a := ⟨gl, 0, none⟩) (hm4.block gl (Nat.lt_of_lt_of_le hgl3 ((Below.refl w3.heap.size w3).drew.alloc (Nat.le_refl _) (.cells #[.int .i64 (v0 - 1)] 3)).size) (by omega))).trans ((((Below.refl w3.heap.size w3).drew.alloc (Nat.le_refl _) (.cells #[.int .i64 (v0 - 1)] 3)).cell (p := ⟨gl, 0, none⟩) hgl3).trans HCELL3.out); have HCELL4 := Lib.hid hcell; have hfr := (World.frozen?_of_block (a := ⟨gl, 0, none⟩) (hm4.block gl (Nat.lt_of_lt_of_le hgl3 ((Below.refl w3.heap.size w3).drew.alloc (Nat.le_refl _) (.cells #[.int .i64 (v0 - 1)] 3)).size) (by omega))).trans ((HT3.out.below ((Below.refl w3.heap.size w3).drew.alloc (Nat.le_refl _) (.cells #[.int .i64 (v0 - 1)] 3))).first (by omega) HPOS.out).choose_spec.choose_spec.2.1; clear ho4 hm4)
            | (refine step_append_sees rfl _ _ 34 rfl 3 i0 .i64 8 Try.underlying34 hi hz0 hzs hz2 _ _ _ _ rfl g0 _ ((HT3.out.below ((Below.refl w3.heap.size w3).alloc (Nat.le_refl _) (.cells #[.int .i64 (v0 - 1)] 3)).drew).refit (by omega) HPOS.out ((((Below.refl w3.heap.size w3).alloc (Nat.le_refl _) (.cells #[.int .i64 (v0 - 1)] 3)).drew.cell (p := ⟨gl, 0, none⟩) hgl3).trans HCELL3.out)).1 _ 1 1 [v0 - 1] rfl ((sees_one HVW.out _ _).below (Below.refl _ _).drew) (by unfold maxLen; omega) (by omega) (by simp; omega) ?_; intro a4 len4 cap4 w4 hlen4 ho4 hm4; subst hlen4; have HA4 := Lib.hid (((HT3.out.below ((Below.refl w3.heap.size w3).alloc (Nat.le_refl _) (.cells #[.int .i64 (v0 - 1)] 3)).drew).refit (by omega) HPOS.out ((((Below.refl w3.heap.size w3).alloc (Nat.le_refl _) (.cells #[.int .i64 (v0 - 1)] 3)).drew.cell (p := ⟨gl, 0, none⟩) hgl3).trans HCELL3.out)).2.2.2 w4 a4 cap4 (row ms 0 ++ [v0 - 1]) hm4); have HL4 := Lib.hid ho4; have HX4 := Lib.hid ((HX3.out.below ((Below.refl w3.heap.size w3).alloc (Nat.le_refl _) (.cells #[.int .i64 (v0 - 1)] 3)).drew).moved hm4 (by omega)); have HR4 := Lib.hid ((HR3.out.below ((Below.refl w3.heap.size w3).alloc (Nat.le_refl _) (.cells #[.int .i64 (v0 - 1)] 3)).drew).moved hm4 (by omega)); have HO4 := Lib.hid ((HO3.out.below ((Below.refl w3.heap.size w3).alloc (Nat.le_refl _) (.cells #[.int .i64 (v0 - 1)] 3)).drew).moved hm4 (.inl (by omega))); have HG4 := Lib.hid (grown_moved (grown_trans HG3.out (grown_of_below ((Below.refl w3.heap.size w3).alloc (Nat.le_refl _) (.cells #[.int .i64 (v0 - 1)] 3)).drew (some B))) hm4 (by omega)); have hcell := (World.cell?_of_block (a := ⟨gl, 0, none⟩) (hm4.block gl (Nat.lt_of_lt_of_le hgl3 ((Below.refl w3.heap.size w3).alloc (Nat.le_refl _) (.cells #[.int .i64 (v0 - 1)] 3)).drew.size) (by omega))).trans ((((Below.refl w3.heap.size w3).alloc (Nat.le_refl _) (.cells #[.int .i64 (v0 - 1)] 3)).drew.cell (p := ⟨gl, 0, none⟩) hgl3).trans HCELL3.out); have HCELL4 := Lib.hid hcell; have hfr := (World.frozen?_of_block (a := ⟨gl, 0, none⟩) (hm4.block gl (Nat.lt_of_lt_of_le hgl3 ((Below.refl w3.heap.size w3).alloc (Nat.le_refl _) (.cells #[.int .i64 (v0 - 1)] 3)).drew.size) (by omega))).trans ((HT3.out.below ((Below.refl w3.heap.size w3).alloc (Nat.le_refl _) (.cells #[.int .i64 (v0 - 1)] 3)).drew).first (by omega) HPOS.out).choose_spec.choose_spec.2.1; clear ho4 hm4))
          all_goals
            obtain ⟨w5, hw5⟩ : ∃ w5, w5 = w4.setCell ⟨gl, 0, none⟩ (.slice a4 ((row ms 0).length + 1) cap4) := ⟨_, rfl⟩
            have hzl : (row ms 0 ++ [v0 - 1]).length = (row ms 0).length + 1 := by simp
            have hna : ∀ y, a4 = some y → y.block ≠ gl := fun y hy => by
              rcases HL4.out.spot with ⟨e0, _⟩ | ⟨g5, e5, _, _, _, _, hcs, _⟩
              · rw [hy] at e0; cases e0
              · rw [e5] at hy
                cases hy
                exact cells_apart (hcs 0 (by omega)) HCELL4.out
            have hav := HA4.out (by rw [hzl]; exact HL4.out) hna
            rw [hzl] at hav
            have HAV5 := Lib.hid hav
            clear hav
            have hm5 : Moved gl (gl + 1) w4 w5 := by rw [hw5]; exact moved_put _ _ _ _
            rw [← hw5] at HAV5
            have HX5 := Lib.hid (HX4.out.moved hm5 (by omega))
            have HR5 := Lib.hid (HR4.out.moved hm5 (by omega))
            have HO5 := Lib.hid (HO4.out.moved hm5 (.inl (by omega)))
            have HG5 := Lib.hid (grown_moved HG4.out hm5 (by omega))
            have HROW5 := Lib.hid (rows_set (m := 10) (z := row ms 0 ++ [v0 - 1]) HROW.out (by rw [List.length_append, List.length_singleton]; omega) (by decide))
            rw [← hw5]
            have x0 := HX5.out.c0
            have x1 := HX5.out.c1
            have r0 := HR5.out.c0
            have r1 := HR5.out.c1
            have rf0 := HR5.out.f0
            have rf1 := HR5.out.f1
            clear hw5 hm5 hcell hfr hna
            have hmR : Moved W.heap.size (W.heap.size + 1) w5 ((w5.setCell ⟨W.heap.size, 0, none⟩ (.int .i64 n)).setCell ⟨W.heap.size, 1, none⟩ (.slice a len cap)) := (moved_put _ _ _ _).trans (moved_put _ _ _ _)
            have HMR := Lib.hid hmR
            clear hmR
            go_wp2
            refine bodyPost_ret (v := .tuple #[.agg #[.int .i64 n, .slice a len cap], .slice (some ⟨gl, 0, none⟩) l c]) (by simp [results, Try.results36, go_sem, r0, r1]) rfl ?_
            exact ⟨n, a, len, cap, ls, gl, l, c, (ms.set 0 (row ms 0 ++ [v0 - 1])), HND.out, hl7, (by omega), HROW5.out, rfl, (HO5.out.moved HMR.out (.inr hlo1)).sees, fun y hy => Nat.le_of_lt (Nat.lt_of_lt_of_le hlo1 (HO5.out.2.2.2.2 y hy).1), (HAV5.out.moved HMR.out hlo).lower (Nat.le_of_lt hlo), grown_moved HG5.out HMR.out (Nat.le_refl _)⟩
        · have hm13 : (m == 1) = false := by simp; omega
          by_cases hm20 : m = 2
          · subst hm20
            have hlX : gl ≠ X := by omega
            have HSP2 := Lib.hid (SpT.of HT2.out)
            clear x0 x1 r0 r1 rf0 rf1 hcell
            go_wp2_with fail
            go_loopw [5] (fun s wr => ∃ (g l2 c2 : Nat) (ms2 : List (List Int)), l ≤ l2 ∧ l2 ≤ 9 ∧ s = .slice (some ⟨g, 0, none⟩) l2 c2 ∧ SpT wr lo g l2 c2 ms2 ∧ Hid (∀ r, r < ms2.length → (row ms2 r).length ≤ 9) ∧ lo ≤ g ∧ g ≠ X ∧ NtC wr X n a len cap ∧ NtC wr W.heap.size 0 none 0 0 ∧ OwnL wr lo1 hi2 a len cap ls ∧ W.grownBy wr (some B)) (fun s _ => 9 - lenS s)
            case atStart => exact ⟨gl, l, c, ms, Nat.le_refl _, by omega, rfl, HSP2.out, HROW, hgllo, hlX, HX2.out, HR2.out, HO2.out, HG2.out⟩
            case round =>
              obtain ⟨g, l2, c2, ms2, hll, hl9, rfl, hsp, hrw, hlog, hgX, hx, hr, ho, hg⟩ := hrel
              have HSP := Lib.hid hsp
              have HX := Lib.hid hx
              have HR := Lib.hid hr
              have HO := Lib.hid ho
              have HG := Lib.hid hg
              have hlen2 : ms2.length = l2 := hsp.len
              have hXl := hx.lt
              have hgl2 := hsp.lt
              by_cases hlt : l2 < 9
              · obtain ⟨ar2, cr2, hcell, hq1, hq2, hq3, hq4⟩ := hsp.head (by omega)
                have hl0i : (0 : Int) < (l2 : Int) := by omega
                have hl0n : 0 < l2 := by omega
                have HQ3 := Lib.hid hq3
                have HQ4 := Lib.hid hq4
                have HMR := Lib.hid (rows_more hrw.out (hrw.out 0 (by omega)))
                clear hsp hx hr ho hg hq3 hq4
                go_wp2_with (at_builtin; refine wp_append_spT rfl _ _ 27 rfl i1 Try.underlying27 hi1 hz10 hz11 hz12 lo g l2 c2 ms2 rfl wr.heap.size rfl (HSP.out.alloc _) ar2 cr2 (row ms2 0) (by simp) hq1 hq2 (HQ3.out.alloc _) (fun y hy => ⟨(HQ4.out y hy).1, (HQ4.out y hy).2.1, Nat.lt_of_lt_of_le (HQ4.out y hy).2.2 (by simp)⟩) (by omega) (by simp; omega) hlog ?_; intro g6 c6 w6 hs6 hlo6 hg6 hm6; have HS6 := Lib.hid hs6; have HM6 := Lib.hid hm6; have HX6 := Lib.hid ((HX.out.alloc (.cells #[.slice ar2 (row ms2 0).length cr2] 36)).moved hm6 (by omega)); have HR6 := Lib.hid ((HR.out.alloc (.cells #[.slice ar2 (row ms2 0).length cr2] 36)).moved hm6 (by omega)); have HO6 := Lib.hid ((HO.out.alloc (.cells #[.slice ar2 (row ms2 0).length cr2] 36)).moved hm6 (.inl (by omega))); have HG6 := Lib.hid (grown_moved (grown_trans HG.out (World.grownBy_alloc wr (.cells #[.slice ar2 (row ms2 0).length cr2] 36) (some B))) hm6 (by omega)); have hg6X : g6 ≠ X := (by rw [World.size_alloc] at hg6; omega); clear hs6 hm6 hg6)
                go_roundw
                case rel => exact ⟨g6, l2 + 1, c6, ms2 ++ [row ms2 0], by omega, by omega, rfl, HS6.out, HMR, hlo6, hg6X, HX6.out, HR6.out, HO6.out, HG6.out⟩
                case measure => simp [lenS]; omega
              · obtain rfl : l2 = 9 := by omega
                have HAV6 := Lib.hid hsp.above
                have H96 : Hid (∀ r, r < ms2.length → (row ms2 r).length ≤ 10) := Lib.hid (fun r hr => Nat.le_trans (hrw.out r hr) (by decide))
                have x0 := HX.out.c0
                have x1 := HX.out.c1
                have r0 := HR.out.c0
                have r1 := HR.out.c1
                have rf0 := HR.out.f0
                have rf1 := HR.out.f1
                clear hsp hx hr ho hg
                have hmR : Moved W.heap.size (W.heap.size + 1) wr ((wr.setCell ⟨W.heap.size, 0, none⟩ (.int .i64 n)).setCell ⟨W.heap.size, 1, none⟩ (.slice a len cap)) := (moved_put _ _ _ _).trans (moved_put _ _ _ _)
                have HMR := Lib.hid hmR
                clear hmR
                go_wp2
                refine bodyPost_ret (v := .tuple #[.agg #[.int .i64 n, .slice a len cap], .slice (some ⟨g, 0, none⟩) 9 c2]) (by simp [results, Try.results36, go_sem, r0, r1]) rfl ?_
                exact ⟨n, a, len, cap, ls, g, 9, c2, ms2, HND.out, hl7, (by decide), H96.out, rfl, (HO.out.moved HMR.out (.inr hlo1)).sees, fun y hy => Nat.le_of_lt (Nat.lt_of_lt_of_le hlo1 (HO.out.2.2.2.2 y hy).1), (HAV6.out.moved HMR.out hlo).lower (Nat.le_of_lt hlo), grown_moved HG.out HMR.out (Nat.le_refl _)⟩
          · have hm23 : (m == 2) = false := by simp; omega
            have HAV2 := Lib.hid HT2.out.above
            have hmR : Moved W.heap.size (W.heap.size + 1) w2 ((w2.setCell ⟨W.heap.size, 0, none⟩ (.int .i64 n)).setCell ⟨W.heap.size, 1, none⟩ (.slice a len cap)) := (moved_put _ _ _ _).trans (moved_put _ _ _ _)
            have HMR := Lib.hid hmR
            clear hmR
            go_wp2
            refine bodyPost_ret (v := .tuple #[.agg #[.int .i64 n, .slice a len cap], .slice (some ⟨gl, 0, none⟩) l c]) (by simp [results, Try.results36, go_sem, r0, r1]) rfl ?_
            exact ⟨n, a, len, cap, ls, gl, l, c, ms, HND.out, hl7, (by omega), H9.out, rfl, (HO2.out.moved HMR.out (.inr hlo1)).sees, fun y hy => Nat.le_of_lt (Nat.lt_of_lt_of_le hlo1 (HO2.out.2.2.2.2 y hy).1), (HAV2.out.moved HMR.out hlo).lower (Nat.le_of_lt hlo), grown_moved HG2.out HMR.out (Nat.le_refl _)⟩
end Go.Proofs.Ytbjjgcfmdlinaaa
/- Drawn: a network and traces. -/
namespace Go.Proofs.Ytbjjgcfmdlinaaa
open Go.RowKit
/-- What a draw of a network and traces leaves. -/
def GotMap (w : World) (e : Ending) (w' : World) : Prop :=
  ∃ (n : Int) (a : Option Addr) (len cap : Nat) (ls : List (Int × Int)) (gl l c : Nat) (ms : List (List Int)), IsNd n ∧ len ≤ 7 ∧ l ≤ 9 ∧ (∀ r, r < ms.length → (row ms r).length ≤ 10) ∧ e = .returned (.tuple #[.agg #[.int .i64 n, .slice a len cap], .slice (some ⟨gl, 0, none⟩) l c]) ∧
    SeesL w' a len ls ∧ SeesM w' (some ⟨gl, 0, none⟩) l ms ∧ Below w.heap.size w w'
set_option maxRecDepth 20000 in
set_option maxHeartbeats 1600000 in
theorem drawMap_any (W : World) (a0 : Option Addr) (len0 cap0 : Nat) (hl : len0 ≤ 1048576) (hc : CodeAt W W.heap.size a0 len0) : Calls Try.prog 10 #[.slice a0 len0 cap0] W (GotMap W) := by
  obtain ⟨V, hV⟩ : ∃ V, V = W.alloc (.cells #[.int .i64 0, .slice none 0 0] 26) := ⟨_, rfl⟩
  have HRV := Lib.hid (show NtC V W.heap.size 0 none 0 0 by rw [hV]; exact ntC_new _ _ _ _ _ _)
  have hbV : Below W.heap.size W V := by rw [hV]; exact below_new _ _
  have hzV : V.heap.size = W.heap.size + 1 := by rw [hV]; simp
  have HBV := Lib.hid hbV
  have HCV := Lib.hid (show CodeAt V V.heap.size a0 len0 from (hc.below hbV).mono (by omega))
  have HV := Lib.hid hV
  clear hbV hc hV
  go_enter Try.func10, Try.ntmps10
  go_wp2_with fail
  rw [← HV.out]
  go_at_call 35
  refine (new_any V a0 len0 cap0 hl HCV.out).mono ?_
  rintro e w1 ⟨rfl, hc1, hb1, hs1⟩
  rw [hzV] at hc1 hs1
  have HR1 := Lib.hid (HRV.out.below hb1)
  have HB1 := Lib.hid (below_up HBV.out hb1 (Nat.le_refl _))
  have HC1 := Lib.hid hc1
  clear hc1 hb1
  go_wp2_with fail
  go_at_call 36
  refine (any13_any w1 (W.heap.size + 1) HC1.out).mono ?_
  rintro e w2 ⟨n, a, len, cap, ls, gl, l, c, ms, hnd, hl7, hl9, hrow, rfl, hsl, hab, hav, hg⟩
  have hb2 : Below (W.heap.size + 1) w1 w2 := grown_below' hg (Nat.le_of_lt hs1)
  have HR2 := Lib.hid (HR1.out.grown hg (by omega))
  have HB2 := Lib.hid (HB1.out.trans (hb2.mono (by omega)))
  have HSL := Lib.hid hsl
  have HAV := Lib.hid hav
  have r0 := HR2.out.c0
  have r1 := HR2.out.c1
  have rf0 := HR2.out.f0
  have rf1 := HR2.out.f1
  have hm : Moved W.heap.size (W.heap.size + 1) w2 ((w2.setCell ⟨W.heap.size, 0, none⟩ (.int .i64 n)).setCell ⟨W.heap.size, 1, none⟩ (.slice a len cap)) := (moved_put _ _ _ _).trans (moved_put _ _ _ _)
  have HM := Lib.hid hm
  clear hg hb2 hsl hav hm
  go_wp2
  refine bodyPost_ret (v := .tuple #[.agg #[.int .i64 n, .slice a len cap], .slice (some ⟨gl, 0, none⟩) l c]) (by simp [results, Try.results10, go_sem, r0, r1]) rfl ?_
  exact ⟨n, a, len, cap, ls, gl, l, c, ms, hnd, hl7, hl9, hrow, rfl, HSL.out.moved HM.out (fun y hy => by have := hab y hy; omega), (HAV.out.moved HM.out (by omega)).sees, below_moved HB2.out HM.out (Nat.le_refl _) (Nat.le_refl _)⟩
end Go.Proofs.Ytbjjgcfmdlinaaa
