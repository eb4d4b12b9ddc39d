/- Whether one of the rows begins in a column: the program's, by a closure. -/
import Derived.Test.YtgcgdgbogamlnaaNullA
import Derived.Deep.RegionHeld3
import Derived.Test.YtgcgdgbogamlnaaSlA
import Derived.WalkLawsBesides
namespace Go.Proofs.Ytgcgdgbogamlnaa
open Go.RowKit
theorem startEq_any (W : World) (a : Option Addr) (n cap : Nat) (zs : List Int) (B k : Nat) (hl : n ≤ 1073741824) (hs : Sees .i64 W a n zs) (hlt : leadL zs < n) (hB : W.cell? ⟨B, 0, none⟩ = some (.int .i64 (k : Int))) :
    Calls Try.prog 108 #[.slice a n cap, .pointer (some ⟨B, 0, none⟩)] W fun e w' => e = .returned (.bool (decide (leadL zs = k))) ∧ Below W.heap.size W w' := by
  have HS := Lib.hid hs
  obtain ⟨d, hd⟩ : ∃ d, d = leadL zs := ⟨_, rfl⟩
  have HSV : Hid (startV zs = (d : Int)) := Lib.hid (by rw [hd]; exact startV_lead (by rw [hs.1]; exact hlt))
  rw [← hd]
  clear hs hlt hd
  go_enter Try.func108, Try.ntmps108
  go_wp2_with fail
  go_region_held3 (fun w' => w'.cell? ⟨B, 0, none⟩ = some (.int .i64 (k : Int))) (go_keep) (first | (go_at_call 47; refine (startOf_any _ a n cap zs hl (HS.out.below (Below.refl _ _).drew)).mono ?_; rw [HSV.out]; rintro e w' ⟨rfl, rfl⟩))
  go_wp2
  go_ret
  exact ⟨ret_bool (by by_cases h : d = k; simp [h]; simp [h]; omega), (Below.refl _ _).drew⟩
/-- Rows of one width that all begin somewhere. -/
structure LeadAt (n : Nat) (rs : List (List Int)) : Prop where
  n6 : n ≤ 7
  many : rs.length ≤ 12
  wid : ∀ u, u < rs.length → (row rs u).length = n
  lead : ∀ u, u < rs.length → leadL (row rs u) < n
theorem NullAt.leadAt {n : Nat} {rs : List (List Int)} (h : NullAt n rs) : LeadAt n rs := ⟨by have := h.n6; omega, by have := h.many; omega, h.wid, h.lead⟩
/-- The first of the rows that begins in column k, or -1. -/
def idxR (rs : List (List Int)) (k : Nat) : Int := if findA (fun u => if leadL (row rs u) = k then 1 else 0) rs.length 0 = rs.length then -1 else (findA (fun u => if leadL (row rs u) = k then 1 else 0) rs.length 0 : Nat)
theorem idxR_none {rs : List (List Int)} {k : Nat} (h : ∀ u, u < rs.length → leadL (row rs u) ≠ k) : idxR rs k = -1 := by
  unfold idxR
  rw [if_pos]
  exact findA_eq (Nat.zero_le _) (by omega) (fun i _ hi => by rw [if_neg (h i hi)]) (.inl (by omega))
theorem idxR_at {rs : List (List Int)} {k u : Nat} (hu : u < rs.length) (h : ∀ t, t < u → leadL (row rs t) ≠ k) (h1 : leadL (row rs u) = k) : idxR rs k = (u : Int) := by
  have e : findA (fun u => if leadL (row rs u) = k then (1 : Int) else 0) rs.length 0 = u := findA_eq (Nat.zero_le _) (by omega) (fun i _ hi => by rw [if_neg (h i hi)]) (.inr (by rw [if_pos h1]; decide))
  unfold idxR
  rw [e, if_neg (by omega)]
theorem idxR_lead (rs : List (List Int)) (k : Nat) : decide (0 ≤ idxR rs k) = leadIn rs k rs.length := by
  cases h : leadIn rs k rs.length
  · rw [idxR_none (fun u hu => leadIn_false h hu)]
    rfl
  · obtain ⟨t, ht, he⟩ := leadIn_true.1 h
    obtain ⟨_, f2, f3, f4⟩ := findA_spec (fun u => if leadL (row rs u) = k then (1 : Int) else 0) rs.length 0
    have : findA (fun u => if leadL (row rs u) = k then (1 : Int) else 0) rs.length 0 ≠ rs.length := fun e => by
      have := f3 t (Nat.zero_le _) (by omega)
      rw [if_pos he] at this
      exact absurd this (by decide)
    unfold idxR
    rw [if_neg this, decide_eq_true_eq]
    omega
set_option maxHeartbeats 800000 in
theorem idxRow_any (W : World) (a : Option Addr) (cap : Nat) (rs : List (List Int)) (n B k : Nat) (hA : LeadAt n rs) (hs : SeesM W a rs.length rs) (hB : W.cell? ⟨B, 0, none⟩ = some (.int .i64 (k : Int))) :
    Calls Try.prog 117 #[.slice a rs.length cap, .func (.func 108) #[] #[.pointer (some ⟨B, 0, none⟩)]] W fun e w' => e = .returned (.int .i64 (idxR rs k)) ∧ Below W.heap.size W w' := by
  have HS := Lib.hid hs
  have HA := Lib.hid hA
  have hBs := World.block_lt_of_cell? W _ hB
  simp only at hBs
  have HBC := Lib.hid hB
  have hr6 : rs.length ≤ 12 := hA.many
  have hn6 : n ≤ 7 := hA.n6
  obtain ⟨v, hv⟩ : ∃ v : Int, v = idxR rs k := ⟨_, rfl⟩
  rw [← hv]
  have HV := Lib.hid hv
  clear hv hs hA hB
  go_enter Try.func117, Try.ntmps117
  go_wp2
  go_loopw [8, 5] (fun i _ wr => ∃ u : Nat, u ≤ rs.length ∧ i = .int .i64 u ∧ Hid (∀ t, t < u → leadL (row rs t) ≠ k) ∧ Below W.heap.size W wr) (fun i _ _ => rs.length - (intOf i).toNat)
  case atStart => exact ⟨0, Nat.zero_le _, rfl, Lib.hid (fun t ht => absurd ht (Nat.not_lt_zero _)), Below.refl _ _⟩
  case round =>
    obtain ⟨u, hu, rfl, HZ, hb⟩ := hrel
    have HB := Lib.hid hb
    have HBW : Hid (wr.cell? ⟨B, 0, none⟩ = some (.int .i64 (k : Int))) := Lib.hid ((hb.cell (p := ⟨B, 0, none⟩) hBs).trans HBC.out)
    by_cases hul : u < rs.length
    · obtain ⟨b5, off5, ar, cr, rfl, hbl, hc, _, _, hsr⟩ := HS.out.2 u hul
      have hcw := (hb.cell (p := ⟨b5, off5 + u, none⟩) hbl).trans hc
      rw [HA.out.wid u hul] at hcw hsr
      have HSR := Lib.hid (hsr.below hb)
      have hn9 : n ≤ 1073741824 := by omega
      clear hc hsr hb
      by_cases hd : leadL (row rs u) = k
      · have HE : Hid (v = u) := Lib.hid (by rw [HV.out]; exact idxR_at hul HZ.out hd)
        have HD : Hid (decide (leadL (row rs u) = k) = true) := Lib.hid (decide_eq_true hd)
        clear hd
        go_wp2_with (go_at_call 108; refine (startEq_any _ ar n cr (row rs u) B k hn9 HSR.out (HA.out.lead u hul) HBW.out).mono ?_; rw [HD.out]; rintro e w1 ⟨rfl, hb1⟩; have HB1 := Lib.hid (below_up HB.out hb1 (Nat.le_refl _)); clear hb1)
        go_ret
        exact ⟨ret_intV HE.out.symm, HB1.out⟩
      · have HD : Hid (decide (leadL (row rs u) = k) = false) := Lib.hid (decide_eq_false hd)
        have HDN := Lib.hid hd
        clear hd
        go_wp2_with (go_at_call 108; refine (startEq_any _ ar n cr (row rs u) B k hn9 HSR.out (HA.out.lead u hul) HBW.out).mono ?_; rw [HD.out]; rintro e w1 ⟨rfl, hb1⟩; have HB1 := Lib.hid (below_up HB.out hb1 (Nat.le_refl _)); clear hb1)
        go_roundw
        case rel => exact ⟨u + 1, by omega, by go_num, Lib.hid (fun t ht => by rcases Nat.lt_or_eq_of_le (Nat.lt_succ_iff.1 ht) with h | h; exact HZ.out t h; subst h; exact HDN.out), HB1.out⟩
        case measure => simp [intOf]; omega
    · obtain rfl : u = rs.length := by omega
      have HE : Hid (v = -1) := Lib.hid (by rw [HV.out]; exact idxR_none HZ.out)
      clear hb
      go_wp2
      go_ret
      exact ⟨ret_intV HE.out.symm, HB.out⟩
theorem isStart_any (W : World) (a : Option Addr) (cap : Nat) (rs : List (List Int)) (n k : Nat) (hA : LeadAt n rs) (hs : SeesM W a rs.length rs) :
    Calls Try.prog 79 #[.slice a rs.length cap, .int .i64 (k : Int)] W fun e w' => e = .returned (.bool (leadIn rs k rs.length)) ∧ Below W.heap.size W w' := by
  have HS := Lib.hid hs
  have HA := Lib.hid hA
  have hn6 : n ≤ 7 := hA.n6
  have HL := Lib.hid (idxR_lead rs k)
  obtain ⟨v, hv⟩ : ∃ v : Int, idxR rs k = v := ⟨_, rfl⟩
  have HV := Lib.hid hv
  rw [hv] at HL
  rw [← HL.out]
  clear hv hs hA
  have hcon : ∀ W0 : World, SeesM W0 a rs.length rs → ∀ B, W0.cell? ⟨B, 0, none⟩ = some (.int .i64 (k : Int)) → Calls Try.prog 107 #[.slice a rs.length cap, .func (.func 108) #[] #[.pointer (some ⟨B, 0, none⟩)]] W0 fun e w' => e = .returned (.bool (decide (0 ≤ v))) ∧ Below W0.heap.size W0 w' := by
    intro W0 hs0 B hB
    have HS0 := Lib.hid hs0
    have HB0 := Lib.hid hB
    clear hs0 hB
    go_enter Try.func107, Try.ntmps107
    go_wp2_with (go_at_call 117; refine (idxRow_any _ a cap rs n B k HA.out HS0.out HB0.out).mono ?_; rw [HV.out]; rintro e w1 ⟨rfl, hb1⟩; have HB1 := Lib.hid hb1; clear hb1)
    go_ret
    exact ⟨rfl, HB1.out⟩
  have HC := Lib.hid hcon
  clear hcon
  go_enter Try.func79, Try.ntmps79
  go_wp2_with (go_at_call 107; refine (HC.out _ (HS.out.below ((Below.refl _ _).alloc (Nat.le_refl _) _)) W.heap.size (by simp)).mono ?_; rintro e w1 ⟨rfl, hb1⟩; have HB1 := Lib.hid (below_up ((Below.refl W.heap.size W).alloc (Nat.le_refl _) _) hb1 (Nat.le_refl _)); clear hb1)
  go_ret
  exact ⟨rfl, HB1.out⟩
end Go.Proofs.Ytgcgdgbogamlnaa
/- 'clear' of a slice of numbers of the call's own. -/
namespace Go.Proofs.Ytgcgdgbogamlnaa
open Go.RowKit
def zeroFrom : List Int → Nat → Nat → List Int
  | zs, _, 0 => zs
  | zs, o, n + 1 => zeroFrom (zs.set o 0) (o + 1) n
theorem zeroFrom_len : ∀ (n o : Nat) (zs : List Int), (zeroFrom zs o n).length = zs.length
  | 0, _, _ => rfl
  | n + 1, o, zs => by rw [zeroFrom, zeroFrom_len n]; simp
theorem zeroFrom_at : ∀ (n o : Nat) (zs : List Int) (j : Nat), (zeroFrom zs o n)[j]? = if o ≤ j ∧ j < o + n ∧ j < zs.length then some 0 else zs[j]?
  | 0, o, zs, j => by rw [zeroFrom, if_neg (by omega)]
  | n + 1, o, zs, j => by
    rw [zeroFrom, zeroFrom_at n (o + 1) (zs.set o 0) j, List.getElem?_set, List.length_set]
    by_cases h1 : j = o
    · subst h1
      by_cases h2 : j < zs.length
      · rw [if_neg (by omega), if_pos rfl, if_pos h2, if_pos ⟨Nat.le_refl _, by omega, h2⟩]
      · rw [if_neg (by omega), if_pos rfl, if_neg h2, if_neg (by omega), List.getElem?_eq_none (by omega)]
    · have e : (o + 1 ≤ j ∧ j < o + 1 + n ∧ j < zs.length) = (o ≤ j ∧ j < o + (n + 1) ∧ j < zs.length) := by rw [eq_iff_iff]; omega
      simp only [e]
      by_cases h2 : o ≤ j ∧ j < o + (n + 1) ∧ j < zs.length
      · rw [if_pos h2, if_pos h2]
      · rw [if_neg h2, if_neg h2, if_neg (fun e => h1 e.symm)]
theorem zeroFrom_all (zs : List Int) : zeroFrom zs 0 zs.length = List.replicate zs.length 0 := by
  apply List.ext_getElem?
  intro j
  rw [zeroFrom_at, List.getElem?_replicate]
  by_cases h : j < zs.length
  · rw [if_pos ⟨Nat.zero_le _, by omega, h⟩, if_pos h]
  · rw [if_neg (by omega), if_neg h, List.getElem?_eq_none (by omega)]
theorem Own.zeroed {k : IntKind} {e : TypeId} {lo hi g len cap : Nat} (h0 : (Lit.int k 0).wf = true) : ∀ (n o : Nat) (w : World) (zs : List Int), Own k e w lo hi (some ⟨g, 0, none⟩) len cap zs →
    Own k e (w.setCells g o (List.replicate n (.int k 0))) lo hi (some ⟨g, 0, none⟩) len cap (zeroFrom zs o n) ∧ Moved lo hi w (w.setCells g o (List.replicate n (.int k 0)))
  | 0, _, w, _, h => ⟨h, Moved.refl _ _ _⟩
  | n + 1, o, w, zs, h => by
    obtain ⟨s1, s2⟩ := h.stored o 0 h0
    obtain ⟨t1, t2⟩ := Own.zeroed h0 n (o + 1) _ _ s1
    exact ⟨t1, s2.trans t2⟩
theorem zero_int : ∀ w : World, (zeroValue 3).run Try.prog w = .ok (.int .i64 0) w := fun w => by kernel_rfl
/-- 'clear' as a run: an equation for the walk, and what it leaves. -/
theorem clear_run {w : World} {lo hi : Nat} {a : Option Addr} {len cap : Nat} {zs : List Int} (hown : Own .i64 3 w lo hi a len cap zs) (hn : 0 < len) (ty : TypeId) :
    ∃ w', (Builtin.clear_ #[25] ty #[.slice a len cap]).run Try.prog w = .ok (.tuple #[]) w' ∧ Own .i64 3 w' lo hi a len cap (List.replicate len 0) ∧ Moved lo hi w w' := by
  rcases hown.spot with ⟨_, h0, _⟩ | ⟨g, rfl, _, _, _, _, hc, hf⟩
  · omega
  have hrun := Lib.run_clear_slice (P := Try.prog) w 25 3 ty (.int .i64 0) Try.underlying25 zero_int rfl rfl g 0 len cap hn (fun j hj => by rw [Nat.zero_add, hc j hj]; rfl) (fun j _ => by rw [Nat.zero_add]; exact hf j)
  obtain ⟨k1, k2⟩ := hown.zeroed (by decide) len 0
  have hl := hown.1
  rw [← hl, zeroFrom_all, hl] at k1
  exact ⟨_, hrun, k1, k2⟩
end Go.Proofs.Ytgcgdgbogamlnaa
/- The program's common multiple, and how it fills a null vector. -/
namespace Go.Proofs.Ytgcgdgbogamlnaa
open Go.RowKit
set_option maxRecDepth 20000 in
set_option maxHeartbeats 800000 in
theorem common_any (W : World) (a : Option Addr) (cap : Nat) (rs : List (List Int)) (n : Nat) (hA : NullAt n rs) (hs : SeesM W a rs.length rs) :
    Calls Try.prog 115 #[.slice a rs.length cap] W fun e w' => e = .returned (.int .i64 (lcmN rs rs.length)) ∧ Below W.heap.size W w' := by
  have HS := Lib.hid hs
  have HA := Lib.hid hA
  have hn6 : n ≤ 6 := hA.n6
  have hr6 : rs.length ≤ 6 := hA.many
  obtain ⟨v, hv⟩ : ∃ v, v = lcmN rs rs.length := ⟨_, rfl⟩
  rw [← hv]
  have HV := Lib.hid hv
  clear hs hA hv
  go_enter Try.func115, Try.ntmps115
  go_wp2_with fail
  go_loopw [3, 9, 5, 6] (fun v i _ _ wr => ∃ (u : Nat) (x : Int), u ≤ rs.length ∧ i = .int .i64 u ∧ v = .int .i64 x ∧ x = lcmN rs u ∧ Below W.heap.size W wr) (fun _ i _ _ _ => rs.length - (intOf i).toNat)
  case atStart => exact ⟨0, 1, Nat.zero_le _, rfl, rfl, rfl, Below.refl _ _⟩
  case round =>
    obtain ⟨u, x, hu, rfl, rfl, hx, hb⟩ := hrel
    have HB := Lib.hid hb
    have hxb := HA.out.lcm u hu
    rw [← hx] at hxb
    obtain ⟨hx0, hx1⟩ := hxb
    have HX := Lib.hid hx
    clear hx
    by_cases hul : u < rs.length
    · obtain ⟨b1, o1, ar, cr, rfl, hbl, hc, _, _, hsr⟩ := HS.out.2 u hul
      have hcw := (hb.cell (p := ⟨b1, o1 + u, none⟩) hbl).trans hc
      rw [HA.out.wid u hul] at hcw hsr
      have HSR := Lib.hid (hsr.below hb)
      obtain ⟨d, hd⟩ : ∃ d, d = leadL (row rs u) := ⟨_, rfl⟩
      have hdn : d < n := by rw [hd]; exact HA.out.lead u hul
      have HSV : Hid (startV (row rs u) = (d : Int)) := Lib.hid (by rw [hd]; exact startV_lead (by rw [HA.out.wid u hul]; exact HA.out.lead u hul))
      rcases hsr.2.2 with h0 | ⟨b2, o2, rfl, hb2, hc2⟩
      · omega
      · have hcc := (hb.cell (p := ⟨b2, o2 + d, none⟩) hb2).trans (hc2 d hdn)
        obtain ⟨p, hp⟩ : ∃ p, p = leadV rs u := ⟨_, rfl⟩
        rw [show (row rs u).getD d 0 = p by rw [hp, hd]; rfl] at hcc
        have hpb := HA.out.pos u hul
        rw [← hp] at hpb
        obtain ⟨hp0, hp1⟩ := hpb
        obtain ⟨g, hg⟩ : ∃ g : Int, g = (Int.gcd x p : Int) := ⟨_, rfl⟩
        have hg1 : 1 ≤ g := by have := Int.gcd_pos_of_ne_zero_left p (show x ≠ 0 by omega); omega
        have hg2 : g ≤ 134217728 := by
          have := Int.le_of_dvd (show 0 < x by omega) (Int.gcd_dvd_left x p)
          omega
        have HG := Lib.hid hg
        obtain ⟨q, hq⟩ : ∃ q, x.tdiv g = q := ⟨_, rfl⟩
        have hq0 : 0 ≤ q := by rw [← hq]; exact Int.tdiv_nonneg (by omega) (by omega)
        have hq1 : q ≤ 134217728 := by have := Int.natAbs_tdiv_le_natAbs x g; rw [hq] at this; omega
        have hm := HA.out.lcm (u + 1) (by omega)
        obtain ⟨y, hy⟩ : ∃ y, q * p = y := ⟨_, rfl⟩
        have HY : Hid (y = lcmN rs (u + 1)) := Lib.hid (by rw [lcmN, ← HX.out, ← hp, ← hg, hq, hy])
        rw [← HY.out] at hm
        obtain ⟨hm0, hm1⟩ := hm
        have hw : IntKind.i64.wrap (q * p) = y := by rw [hy]; exact IntWalk.i64_in _ (by omega)
        have hn9 : n ≤ 1073741824 := by omega
        clear hc hsr hb hd hc2 hp hg hy
        go_wp2_with (first
          | (go_at_call 47; refine (startOf_any _ _ n cr (row rs u) hn9 HSR.out).mono ?_; rw [HSV.out]; rintro e w' ⟨rfl, rfl⟩)
          | (go_at_call 111; refine (prgGcd_any x p _ (by omega) (by omega) (by omega) (by omega)).mono ?_; rw [← HG.out]; rintro e w3 ⟨rfl, hb3⟩; have HB3 := Lib.hid (below_up HB.out hb3 (Nat.le_refl _)); clear hb3))
        go_roundw
        case rel => exact ⟨u + 1, y, by omega, by go_num, rfl, HY.out, HB3.out⟩
        case measure => simp [intOf]; omega
    · obtain rfl : u = rs.length := by omega
      have HE : Hid (v = x) := Lib.hid (by rw [HV.out, HX.out])
      clear hb
      go_wp2
      go_ret
      exact ⟨ret_intV HE.out.symm, HB.out⟩
set_option maxRecDepth 20000 in
set_option maxHeartbeats 1600000 in
theorem fill_any (W : World) (lo hi lo2 hi2 : Nat) (b : Option Addr) (cb : Nat) (a : Option Addr) (cap : Nat) (rs : List (List Int)) (n f : Nat) (hA : NullAt n rs) (ho : Own .i64 3 W lo hi b n cb (List.replicate n 0)) (hs : SeesF W lo2 hi2 a rs.length rs) (hdis : hi2 ≤ lo ∨ hi ≤ lo2) (hf : f < n) :
    Calls Try.prog 92 #[.slice b n cb, .slice a rs.length cap, .int .i64 (f : Int)] W fun e w' => e = .returned (.tuple #[]) ∧ Own .i64 3 w' lo hi b n cb (nullAt rs n f rs.length) ∧ Moved lo hi W w' := by
  have HS := Lib.hid hs
  have HA := Lib.hid hA
  have HO := Lib.hid ho
  have hn6 : n ≤ 6 := hA.n6
  have hr6 : rs.length ≤ 6 := hA.many
  obtain ⟨x, hx⟩ : ∃ x, x = lcmN rs rs.length := ⟨_, rfl⟩
  have hxb := hA.lcm rs.length (Nat.le_refl _)
  rw [← hx] at hxb
  obtain ⟨hx0, hx1⟩ := hxb
  have HX := Lib.hid hx
  rcases ho.spot with ⟨_, h0, _⟩ | ⟨g, rfl, hg1, hg2, _, _, _, _⟩
  · omega
  clear hs hA hx ho
  go_enter Try.func92, Try.ntmps92
  go_wp2_with (go_at_call 115; refine (common_any _ a cap rs n HA.out HS.out.sees).mono ?_; rw [← HX.out]; rintro e w1 ⟨rfl, hb1⟩; have HB1 := Lib.hid hb1; have HO1 := Lib.hid (HO.out.below hb1); have hcd1 := (HO.out.below hb1).spot; clear hb1; rcases hcd1 with ⟨hcd1, _⟩ | ⟨g', hcd1, _, _, _, _, hcs1, hfz1⟩ <;> first | (cases hcd1; done) | skip; cases hcd1; have hcd1 := hcs1 f hf; have hfd1 := hfz1 f; clear hcs1 hfz1)
  have HST := Lib.hid (HO1.out.stored f x (WalkArith.wf_i64 (by omega)))
  have HN0 : Hid ((List.replicate n (0 : Int)).set f x = nullAt rs n f 0) := Lib.hid (by rw [nullAt, HX.out])
  go_loopw [18, 8, 9] (fun i _ _ wr => ∃ t : Nat, t ≤ rs.length ∧ i = .int .i64 t ∧ Own .i64 3 wr lo hi (some ⟨g, 0, none⟩) n cb (nullAt rs n f t) ∧ Moved lo hi W wr) (fun i _ _ _ => rs.length - (intOf i).toNat)
  case atStart => exact ⟨0, Nat.zero_le _, rfl, by have h := HST.out.1; rw [HN0.out] at h; exact h, (Moved.of_below HB1.out).trans HST.out.2⟩
  case round =>
    obtain ⟨t, ht, rfl, ho, hb⟩ := hrel
    have HO3 := Lib.hid ho
    have HB3 := Lib.hid hb
    by_cases htl : t < rs.length
    · have hsf := HS.out.moved hb (by omega)
      obtain ⟨b1, o1, ar, cr, rfl, hbl, _, hcw, _, _, hsr, _⟩ := hsf.2 t htl
      rw [HA.out.wid t htl] at hcw hsr
      have HSR := Lib.hid hsr
      obtain ⟨d, hd⟩ : ∃ d, d = leadL (row rs t) := ⟨_, rfl⟩
      have hdn : d < n := by rw [hd]; exact HA.out.lead t htl
      have HSV : Hid (startV (row rs t) = (d : Int)) := Lib.hid (by rw [hd]; exact startV_lead (by rw [HA.out.wid t htl]; exact HA.out.lead t htl))
      rcases hsr.2.2 with h0 | ⟨b2, o2, rfl, hb2, hc2⟩
      · omega
      · have hcc := hc2 d hdn
        have hcf := hc2 f hf
        have hee := HA.out.entry htl f
        have hqq := HA.out.quo htl
        have hpb := HA.out.pos t htl
        obtain ⟨p, hp⟩ : ∃ p, p = leadV rs t := ⟨_, rfl⟩
        obtain ⟨y, hy⟩ : ∃ y, y = vec (row rs t) f := ⟨_, rfl⟩
        rw [show (row rs t).getD d 0 = p by rw [hp, hd]; rfl] at hcc
        rw [show (row rs t).getD f 0 = y from hy.symm] at hcf
        rw [← hp, ← hy, ← HX.out] at hee
        rw [← hp, ← HX.out] at hqq
        rw [← hp] at hpb
        obtain ⟨hp0, hp1⟩ := hpb
        obtain ⟨q, hq⟩ : ∃ q, x.tdiv p = q := ⟨_, rfl⟩
        rw [hq] at hee hqq
        obtain ⟨hq0, hq1⟩ := hqq
        have hqn : (-x).tdiv p = -q := by rw [Int.neg_tdiv, hq]
        obtain ⟨z, hz⟩ : ∃ z, -q * y = z := ⟨_, rfl⟩
        rw [hz] at hee
        obtain ⟨he0, he1⟩ := hee
        have hw : IntKind.i64.wrap (-q * y) = z := by rw [hz]; exact IntWalk.i64_in _ (by omega)
        have hw2 : wrap64 (-q * y) = z := by rw [← IntWalk.i64_left]; exact hw
        have HWW := Lib.hid hw2
        have HZ : Hid ((nullAt rs n f t).set d z = nullAt rs n f (t + 1)) := Lib.hid (by rw [nullAt, ← HX.out, ← hp, ← hy, hq, hz, hd])
        rcases ho.spot with ⟨hx0, _⟩ | ⟨g', hg', _, hgs, _, _, hcs, hfz⟩
        · cases hx0
        · cases hg'
          have hcd := hcs d hdn
          have hfd := hfz d
          have hd0 : (0 : Int) ≤ (d : Int) := Int.natCast_nonneg _
          have hdi : (d : Int) < (n : Int) := by omega
          have hf0 : (0 : Int) ≤ (f : Int) := Int.natCast_nonneg _
          have hfi : (f : Int) < (n : Int) := by omega
          have hn9 : n ≤ 1073741824 := by omega
          have HST3 := Lib.hid (HO3.out.stored d z (WalkArith.wf_i64 (by omega)))
          clear hsr hb ho hd hc2 hp hy hz hcs hfz hsf
          go_wp2_with (go_at_call 47; refine (startOf_any _ _ n cr (row rs t) hn9 HSR.out).mono ?_; rw [HSV.out]; rintro e w' ⟨rfl, rfl⟩)
          go_region_with (fail)
          all_goals (go_wp2)
          all_goals
            go_roundw
            case rel =>
              have h := HST3.out.1
              rw [HZ.out] at h
              have h2 : Own .i64 3 (wr.setCell ⟨g, d, none⟩ (.int .i64 z)).drew lo hi (some ⟨g, 0, none⟩) n cb (nullAt rs n f (t + 1)) := h.below (Below.refl _ _).drew
              have h3 : Moved lo hi W (wr.setCell ⟨g, d, none⟩ (.int .i64 z)).drew := (HB3.out.trans HST3.out.2).trans (Moved.of_below (Below.refl _ _).drew)
              first
                | exact ⟨t + 1, by omega, by go_num, h2, h3⟩
                | (rw [HWW.out]; exact ⟨t + 1, by omega, by go_num, h2, h3⟩)
            case measure => simp [intOf]; omega
    · obtain rfl : t = rs.length := by omega
      clear ho hb
      go_wp2
      go_end0
      exact ⟨rfl, HO3.out, HB3.out⟩
end Go.Proofs.Ytgcgdgbogamlnaa
/- The program's NullVector. -/
namespace Go.Proofs.Ytgcgdgbogamlnaa
open Go.RowKit
theorem nullV_len (ms : List (List Int)) (z : List Int) : (nullV ms z).length ≤ 6 := by
  cases hv : bothV ms z
  · rw [null_none hv]; simp
  · rw [null_yes hv]
    split
    · simp
    · rw [nullAt_len]; exact (both_len hv).2
set_option maxRecDepth 20000 in
set_option maxHeartbeats 1600000 in
theorem nv_any (W : World) (a : Option Addr) (len cap : Nat) (ms : List (List Int)) (b : Option Addr) (lb cb : Nat) (z : List Int) (hsm : SmallM ms) (hs : SeesM W a len ms) (hl : lb ≤ 1073741824) (hc : lb ≤ cb) (hcm : cb ≤ maxLen) (hs2 : Sees .i64 W b lb z) :
    Calls Try.prog 56 #[.slice a len cap, .slice b lb cb] W (Made .i64 3 (nullV ms z) W) := by
  have HS := Lib.hid hs
  have HSM := Lib.hid hsm
  have HS2 := Lib.hid hs2
  have HLB := Lib.hid hs2.1
  obtain ⟨i0, hi, hz0, hz1, hz2⟩ := info_parts info_i64
  cases hv : bothV ms z
  · have HE := Lib.hid (null_none hv)
    have HV := Lib.hid hv
    clear hv hs hsm hs2
    go_enter Try.func56, Try.ntmps56
    go_wp2_with (go_at_call 58; refine (both_any _ a len cap ms b lb cb z HSM.out HS.out hl hc hcm HS2.out).mono ?_; rw [HV.out]; rintro e w1 ⟨rfl, hb1⟩; have HB1 := Lib.hid hb1; clear hb1)
    go_ret
    rw [HE.out]
    exact ⟨_, _, _, rfl, own_empty w1 _ HB1.out.size, HB1.out.alloc HB1.out.size _⟩
  · have HA := Lib.hid (null_at hv)
    have HRV : Hid (rrV ms (lb : Int) = rrL ms z.length) := Lib.hid (by
      have h1 : isMat ms (z.length : Int) = true := by simp only [bothV, Bool.and_eq_true] at hv; exact hv.1
      unfold rrV
      rw [← hs2.1, if_pos h1]
      simp)
    have HNV := Lib.hid (null_yes hv)
    have HH := Lib.hid (null_hit (rrL ms z.length) z z.length)
    obtain ⟨idx, hidx⟩ : ∃ idx, idx = nullIdx (rrL ms z.length) z z.length := ⟨_, rfl⟩
    rw [← hidx] at HH HNV
    obtain ⟨rs, hrs⟩ : ∃ rs, rs = rrL ms z.length := ⟨_, rfl⟩
    rw [← hrs] at HH HNV HRV HA
    rw [HLB.out] at HH HNV HA
    obtain ⟨nv, hnv⟩ : ∃ nv, nv = nullV ms z := ⟨_, rfl⟩
    rw [← hnv] at HNV ⊢
    have hn6 : lb ≤ 6 := HA.out.n6
    have hn1 : 1 ≤ lb := HA.out.n1
    have hr6 : rs.length ≤ 6 := HA.out.many
    have hidl : idx ≤ lb := HH.out.le
    have HV := Lib.hid hv
    clear hv hs hsm hs2 hrs hidx hnv
    go_enter Try.func56, Try.ntmps56
    go_wp2_with (first
      | (go_at_call 58; refine (both_any _ a len cap ms b lb cb z HSM.out HS.out hl hc hcm HS2.out).mono ?_; rw [HV.out]; rintro e w1 ⟨rfl, hb1⟩; have HB1 := Lib.hid hb1; clear hb1)
      | (go_at_call 60; refine (rrP_any _ a len cap ms (lb : Int) HSM.out (by omega) (by omega) (HS.out.below HB1.out)).mono ?_; rw [HRV.out]; rintro e w4 ⟨a4, l4, c4, rfl, hs4, hb4⟩; have hl4 := hs4.1; subst hl4; have HS4 := Lib.hid hs4.seesF; have HB4 := Lib.hid (below_up HB1.out hb4 (Nat.le_refl _)); clear hs4 hb4)
      | (at_make; refine wp_make_room _ rfl _ _ 25 rfl 3 i0 .i64 8 Try.underlying25 hi hz0 hz1 hz2 _ _ _ _ lb lb rfl rfl rfl rfl (Nat.le_refl _) (by omega) (by unfold maxLen; omega) ?_; intro w5 ho5 hb5; have HO5 := Lib.hid ho5; have HS5 := Lib.hid (HS4.out.below hb5); have HB5 := Lib.hid (below_up HB4.out hb5 (Nat.le_refl _)); clear ho5 hb5))
    go_loopw [22, 7] (fun i _ wr => ∃ (k : Nat) (vs : List Int), k ≤ idx ∧ i = .int .i64 k ∧ Own .i64 3 wr w4.heap.size w5.heap.size (some ⟨w4.heap.size, 0, none⟩) lb lb vs ∧ Moved w4.heap.size w5.heap.size w5 wr) (fun i _ _ => lb - (intOf i).toNat)
    case atStart => exact ⟨0, _, Nat.zero_le _, rfl, HO5.out, Moved.refl _ _ _⟩
    case round =>
      obtain ⟨k, vs, hk, rfl, ho, hm⟩ := hrel
      have HO := Lib.hid ho
      have HM := Lib.hid hm
      have HSR := Lib.hid (HS5.out.moved hm (.inl (Nat.le_refl _)))
      have HB := Lib.hid (below_moved HB5.out hm (Nat.le_refl _) HB4.out.size)
      clear ho hm
      by_cases hkn : k < lb
      · have hn9 : lb ≤ 1073741824 := hl
        cases hlk : leadIn rs k rs.length
        · have HLK := Lib.hid hlk
          obtain ⟨dv, hdv⟩ : ∃ dv, dv = dotV (nullAt rs lb k rs.length) z := ⟨_, rfl⟩
          have HDV := Lib.hid hdv
          by_cases hd0 : dv = 0
          · have hkid : k < idx := by
              rcases Nat.lt_or_eq_of_le hk with h1 | h1
              · exact h1
              · have := (HH.out.hit (by omega)).2
                rw [← h1, ← hdv] at this
                exact absurd hd0 this
            subst hd0
            clear hlk hdv
            go_wp2_with (first
              | (go_at_call 79; refine (isStart_any _ a4 c4 rs lb k HA.out.leadAt HSR.out.sees).mono ?_; rw [HLK.out]; rintro e w6 ⟨rfl, hb6⟩; have HB6 := Lib.hid hb6; obtain ⟨w7, hrun7, ho7, hm7⟩ := clear_run (HO.out.below hb6) (show 0 < lb by omega) 0; have HO7 := Lib.hid ho7; have HM7 := Lib.hid hm7; clear ho7 hm7 hb6)
              | (go_at_call 92; refine (fill_any _ w4.heap.size w5.heap.size w1.heap.size w4.heap.size _ lb a4 c4 rs lb k HA.out HO7.out ((HSR.out.below HB6.out).moved HM7.out (.inl (Nat.le_refl _))) (.inl (Nat.le_refl _)) hkn).mono ?_; rintro e w8 ⟨rfl, ho8, hm8⟩; have HO8 := Lib.hid ho8; have HM8 := Lib.hid hm8; clear ho8 hm8)
              | (go_at_call 93; refine (dot_any _ _ lb lb b lb cb (nullAt rs lb k rs.length) z hn9 hn9 HO8.out.sees (HS2.out.below (below_moved (below_moved (below_up HB.out HB6.out (Nat.le_refl _)) HM7.out (Nat.le_refl _) HB4.out.size) HM8.out (Nat.le_refl _) HB4.out.size))).mono ?_; rw [← HDV.out]; rintro e w9 ⟨rfl, hb9⟩; have HB9 := Lib.hid hb9; clear hb9))
            go_roundw
            case rel => exact ⟨k + 1, _, by omega, by go_num, HO8.out.below HB9.out, (((HM.out.trans (Moved.of_below HB6.out)).trans HM7.out).trans HM8.out).trans (Moved.of_below HB9.out)⟩
            case measure => simp [intOf]; omega
          · have hkid : k = idx := by
              rcases Nat.lt_or_eq_of_le hk with h1 | h1
              · rcases HH.out.miss k h1 with h2 | h2
                · rw [hlk] at h2; cases h2
                · rw [← hdv] at h2; exact absurd h2 hd0
              · exact h1
            have HRES : Hid (nv = nullAt rs lb k rs.length) := Lib.hid (by rw [HNV.out, if_neg (by omega), hkid])
            have hd0b : (dv != 0) = true := by simp [hd0]
            clear hlk hdv hkid
            go_wp2_with (first
              | (go_at_call 79; refine (isStart_any _ a4 c4 rs lb k HA.out.leadAt HSR.out.sees).mono ?_; rw [HLK.out]; rintro e w6 ⟨rfl, hb6⟩; have HB6 := Lib.hid hb6; obtain ⟨w7, hrun7, ho7, hm7⟩ := clear_run (HO.out.below hb6) (show 0 < lb by omega) 0; have HO7 := Lib.hid ho7; have HM7 := Lib.hid hm7; clear ho7 hm7 hb6)
              | (go_at_call 92; refine (fill_any _ w4.heap.size w5.heap.size w1.heap.size w4.heap.size _ lb a4 c4 rs lb k HA.out HO7.out ((HSR.out.below HB6.out).moved HM7.out (.inl (Nat.le_refl _))) (.inl (Nat.le_refl _)) hkn).mono ?_; rintro e w8 ⟨rfl, ho8, hm8⟩; have HO8 := Lib.hid ho8; have HM8 := Lib.hid hm8; clear ho8 hm8)
              | (go_at_call 93; refine (dot_any _ _ lb lb b lb cb (nullAt rs lb k rs.length) z hn9 hn9 HO8.out.sees (HS2.out.below (below_moved (below_moved (below_up HB.out HB6.out (Nat.le_refl _)) HM7.out (Nat.le_refl _) HB4.out.size) HM8.out (Nat.le_refl _) HB4.out.size))).mono ?_; rw [← HDV.out]; rintro e w9 ⟨rfl, hb9⟩; have HB9 := Lib.hid hb9; clear hb9))
            go_ret
            rw [HRES.out]
            have hmv := (((HM.out.trans (Moved.of_below HB6.out)).trans HM7.out).trans HM8.out).trans (Moved.of_below (lo := w4.heap.size) (hi := w5.heap.size) HB9.out)
            exact ⟨_, _, _, rfl, (HO8.out.below HB9.out).wide HB4.out.size hmv.size (Nat.le_refl _), below_moved HB5.out hmv (Nat.le_refl _) HB4.out.size⟩
        · have HLK := Lib.hid hlk
          have hkid : k < idx := by
            rcases Nat.lt_or_eq_of_le hk with h1 | h1
            · exact h1
            · have := (HH.out.hit (by omega)).1
              rw [← h1, hlk] at this
              cases this
          clear hlk
          go_wp2_with (go_at_call 79; refine (isStart_any _ a4 c4 rs lb k HA.out.leadAt HSR.out.sees).mono ?_; rw [HLK.out]; rintro e w6 ⟨rfl, hb6⟩; have HB6 := Lib.hid hb6; clear hb6)
          go_roundw
          case rel => exact ⟨k + 1, _, by omega, by go_num, HO.out.below HB6.out, HM.out.trans (Moved.of_below HB6.out)⟩
          case measure => simp [intOf]; omega
      · have HRES : Hid (nv = []) := Lib.hid (by rw [HNV.out, if_pos (by omega)])
        go_wp2
        go_ret
        rw [HRES.out]
        exact ⟨_, _, _, rfl, own_empty _ _ HB.out.size, HB.out.alloc HB.out.size _⟩
end Go.Proofs.Ytgcgdgbogamlnaa
