/- Whether one of the rows begins in a column: the program's, by a closure. -/
import Derived.Test.YtedkeobhcpbigaaNullA
import Derived.Deep.RegionHeld3
import Derived.Test.YtedkeobhcpbigaaSlA
import Derived.WalkLawsBesides
namespace Go.Proofs.Ytedkeobhcpbigaa
open Go.RowKit
theorem startEq_any (W : World) (a : Option Addr) (n cap : Nat) (zs : List Int) (B k : Nat) (hl : n ≤ 1073741824) (hs : Sees .i64 W a n zs) (hlt : leadL zs < n) (hB : W.cell? ⟨B, 0, none⟩ = some (.int .i64 (k : Int))) :
    Calls Try.prog 91 #[.slice a n cap, .pointer (some ⟨B, 0, none⟩)] W fun e w' => e = .returned (.bool (decide (leadL zs = k))) ∧ Below W.heap.size W w' := by
  have HS := Lib.hid hs
  obtain ⟨d, hd⟩ : ∃ d, d = leadL zs := ⟨_, rfl⟩
  have HSV : Hid (startV zs = (d : Int)) := Lib.hid (by rw [hd]; exact startV_lead (by rw [hs.1]; exact hlt))
  rw [← hd]
  clear hs hlt hd
  go_enter Try.func91, Try.ntmps91
  go_wp2_with fail
  go_region_held3 (fun w' => w'.cell? ⟨B, 0, none⟩ = some (.int .i64 (k : Int))) (go_keep) (first | (go_at_call 63; refine (startOf_any _ a n cap zs hl (HS.out.below (Below.refl _ _).drew)).mono ?_; rw [HSV.out]; rintro e w' ⟨rfl, rfl⟩))
  go_wp2
  go_ret
  exact ⟨ret_bool (by by_cases h : d = k; simp [h]; simp [h]; omega), (Below.refl _ _).drew⟩
/-- Rows of one width that all begin somewhere. -/
structure LeadAt (n : Nat) (rs : List (List Int)) : Prop where
  n6 : n ≤ 7
  many : rs.length ≤ 12
  wid : ∀ u, u < rs.length → (row rs u).length = n
  lead : ∀ u, u < rs.length → leadL (row rs u) < n
theorem NullAt.leadAt {n : Nat} {rs : List (List Int)} (h : NullAt n rs) : LeadAt n rs := ⟨by have := h.n6; omega, by have := h.many; omega, h.wid, h.lead⟩
/-- The first of the rows that begins in column k, or -1. -/
def idxR (rs : List (List Int)) (k : Nat) : Int := if findA (fun u => if leadL (row rs u) = k then 1 else 0) rs.length 0 = rs.length then -1 else (findA (fun u => if leadL (row rs u) = k then 1 else 0) rs.length 0 : Nat)
theorem idxR_none {rs : List (List Int)} {k : Nat} (h : ∀ u, u < rs.length → leadL (row rs u) ≠ k) : idxR rs k = -1 := by
  unfold idxR
  rw [if_pos]
  exact findA_eq (Nat.zero_le _) (by omega) (fun i _ hi => by rw [if_neg (h i hi)]) (.inl (by omega))
theorem idxR_at {rs : List (List Int)} {k u : Nat} (hu : u < rs.length) (h : ∀ t, t < u → leadL (row rs t) ≠ k) (h1 : leadL (row rs u) = k) : idxR rs k = (u : Int) := by
  have e : findA (fun u => if leadL (row rs u) = k then (1 : Int) else 0) rs.length 0 = u := findA_eq (Nat.zero_le _) (by omega) (fun i _ hi => by rw [if_neg (h i hi)]) (.inr (by rw [if_pos h1]; decide))
  unfold idxR
  rw [e, if_neg (by omega)]
theorem idxR_lead (rs : List (List Int)) (k : Nat) : decide (0 ≤ idxR rs k) = leadIn rs k rs.length := by
  cases h : leadIn rs k rs.length
  · rw [idxR_none (fun u hu => leadIn_false h hu)]
    rfl
  · obtain ⟨t, ht, he⟩ := leadIn_true.1 h
    obtain ⟨_, f2, f3, f4⟩ := findA_spec (fun u => if leadL (row rs u) = k then (1 : Int) else 0) rs.length 0
    have : findA (fun u => if leadL (row rs u) = k then (1 : Int) else 0) rs.length 0 ≠ rs.length := fun e => by
      have := f3 t (Nat.zero_le _) (by omega)
      rw [if_pos he] at this
      exact absurd this (by decide)
    unfold idxR
    rw [if_neg this, decide_eq_true_eq]
    omega
set_option maxHeartbeats 800000 in
theorem idxRow_any (W : World) (a : Option Addr) (cap : Nat) (rs : List (List Int)) (n B k : Nat) (hA : LeadAt n rs) (hs : SeesM W a rs.length rs) (hB : W.cell? ⟨B, 0, none⟩ = some (.int .i64 (k : Int))) :
    Calls Try.prog 100 #[.slice a rs.length cap, .func (.func 91) #[] #[.pointer (some ⟨B, 0, none⟩)]] W fun e w' => e = .returned (.int .i64 (idxR rs k)) ∧ Below W.heap.size W w' := by
  have HS := Lib.hid hs
  have HA := Lib.hid hA
  have hBs := World.block_lt_of_cell? W _ hB
  simp only at hBs
  have HBC := Lib.hid hB
  have hr6 : rs.length ≤ 12 := hA.many
  have hn6 : n ≤ 7 := hA.n6
  obtain ⟨v, hv⟩ : ∃ v : Int, v = idxR rs k := ⟨_, rfl⟩
  rw [← hv]
  have HV := Lib.hid hv
  clear hv hs hA hB
  go_enter Try.func100, Try.ntmps100
  go_wp2
  go_loopw [8, 5] (fun i _ wr => ∃ u : Nat, u ≤ rs.length ∧ i = .int .i64 u ∧ Hid (∀ t, t < u → leadL (row rs t) ≠ k) ∧ Below W.heap.size W wr) (fun i _ _ => rs.length - (intOf i).toNat)
  case atStart => exact ⟨0, Nat.zero_le _, rfl, Lib.hid (fun t ht => absurd ht (Nat.not_lt_zero _)), Below.refl _ _⟩
  case round =>
    obtain ⟨u, hu, rfl, HZ, hb⟩ := hrel
    have HB := Lib.hid hb
    have HBW : Hid (wr.cell? ⟨B, 0, none⟩ = some (.int .i64 (k : Int))) := Lib.hid ((hb.cell (p := ⟨B, 0, none⟩) hBs).trans HBC.out)
    by_cases hul : u < rs.length
    · obtain ⟨b5, off5, ar, cr, rfl, hbl, hc, _, _, hsr⟩ := HS.out.2 u hul
      have hcw := (hb.cell (p := ⟨b5, off5 + u, none⟩) hbl).trans hc
      rw [HA.out.wid u hul] at hcw hsr
      have HSR := Lib.hid (hsr.below hb)
      have hn9 : n ≤ 1073741824 := by omega
      clear hc hsr hb
      by_cases hd : leadL (row rs u) = k
      · have HE : Hid (v = u) := Lib.hid (by rw [HV.out]; exact idxR_at hul HZ.out hd)
        have HD : Hid (decide (leadL (row rs u) = k) = true) := Lib.hid (decide_eq_true hd)
        clear hd
        go_wp2_with (go_at_call 91; refine (startEq_any _ ar n cr (row rs u) B k hn9 HSR.out (HA.out.lead u hul) HBW.out).mono ?_; rw [HD.out]; rintro e w1 ⟨rfl, hb1⟩; have HB1 := Lib.hid (below_up HB.out hb1 (Nat.le_refl _)); clear hb1)
        go_ret
        exact ⟨ret_intV HE.out.symm, HB1.out⟩
      · have HD : Hid (decide (leadL (row rs u) = k) = false) := Lib.hid (decide_eq_false hd)
        have HDN := Lib.hid hd
        clear hd
        go_wp2_with (go_at_call 91; refine (startEq_any _ ar n cr (row rs u) B k hn9 HSR.out (HA.out.lead u hul) HBW.out).mono ?_; rw [HD.out]; rintro e w1 ⟨rfl, hb1⟩; have HB1 := Lib.hid (below_up HB.out hb1 (Nat.le_refl _)); clear hb1)
        go_roundw
        case rel => exact ⟨u + 1, by omega, by go_num, Lib.hid (fun t ht => by rcases Nat.lt_or_eq_of_le (Nat.lt_succ_iff.1 ht) with h | h; exact HZ.out t h; subst h; exact HDN.out), HB1.out⟩
        case measure => simp [intOf]; omega
    · obtain rfl : u = rs.length := by omega
      have HE : Hid (v = -1) := Lib.hid (by rw [HV.out]; exact idxR_none HZ.out)
      clear hb
      go_wp2
      go_ret
      exact ⟨ret_intV HE.out.symm, HB.out⟩
theorem isStart_any (W : World) (a : Option Addr) (cap : Nat) (rs : List (List Int)) (n k : Nat) (hA : LeadAt n rs) (hs : SeesM W a rs.length rs) :
    Calls Try.prog 68 #[.slice a rs.length cap, .int .i64 (k : Int)] W fun e w' => e = .returned (.bool (leadIn rs k rs.length)) ∧ Below W.heap.size W w' := by
  have HS := Lib.hid hs
  have HA := Lib.hid hA
  have hn6 : n ≤ 7 := hA.n6
  have HL := Lib.hid (idxR_lead rs k)
  obtain ⟨v, hv⟩ : ∃ v : Int, idxR rs k = v := ⟨_, rfl⟩
  have HV := Lib.hid hv
  rw [hv] at HL
  rw [← HL.out]
  clear hv hs hA
  have hcon : ∀ W0 : World, SeesM W0 a rs.length rs → ∀ B, W0.cell? ⟨B, 0, none⟩ = some (.int .i64 (k : Int)) → Calls Try.prog 90 #[.slice a rs.length cap, .func (.func 91) #[] #[.pointer (some ⟨B, 0, none⟩)]] W0 fun e w' => e = .returned (.bool (decide (0 ≤ v))) ∧ Below W0.heap.size W0 w' := by
    intro W0 hs0 B hB
    have HS0 := Lib.hid hs0
    have HB0 := Lib.hid hB
    clear hs0 hB
    go_enter Try.func90, Try.ntmps90
    go_wp2_with (go_at_call 100; refine (idxRow_any _ a cap rs n B k HA.out HS0.out HB0.out).mono ?_; rw [HV.out]; rintro e w1 ⟨rfl, hb1⟩; have HB1 := Lib.hid hb1; clear hb1)
    go_ret
    exact ⟨rfl, HB1.out⟩
  have HC := Lib.hid hcon
  clear hcon
  go_enter Try.func68, Try.ntmps68
  go_wp2_with (go_at_call 90; refine (HC.out _ (HS.out.below ((Below.refl _ _).alloc (Nat.le_refl _) _)) W.heap.size (by simp)).mono ?_; rintro e w1 ⟨rfl, hb1⟩; have HB1 := Lib.hid (below_up ((Below.refl W.heap.size W).alloc (Nat.le_refl _) _) hb1 (Nat.le_refl _)); clear hb1)
  go_ret
  exact ⟨rfl, HB1.out⟩
end Go.Proofs.Ytedkeobhcpbigaa
/- 'clear' of a slice of numbers of the call's own. -/
namespace Go.Proofs.Ytedkeobhcpbigaa
open Go.RowKit
def zeroFrom : List Int → Nat → Nat → List Int
  | zs, _, 0 => zs
  | zs, o, n + 1 => zeroFrom (zs.set o 0) (o + 1) n
theorem zeroFrom_len : ∀ (n o : Nat) (zs : List Int), (zeroFrom zs o n).length = zs.length
  | 0, _, _ => rfl
  | n + 1, o, zs => by rw [zeroFrom, zeroFrom_len n]; simp
theorem zeroFrom_at : ∀ (n o : Nat) (zs : List Int) (j : Nat), (zeroFrom zs o n)[j]? = if o ≤ j ∧ j < o + n ∧ j < zs.length then some 0 else zs[j]?
  | 0, o, zs, j => by rw [zeroFrom, if_neg (by omega)]
  | n + 1, o, zs, j => by
    rw [zeroFrom, zeroFrom_at n (o + 1) (zs.set o 0) j, List.getElem?_set, List.length_set]
    by_cases h1 : j = o
    · subst h1
      by_cases h2 : j < zs.length
      · rw [if_neg (by omega), if_pos rfl, if_pos h2, if_pos ⟨Nat.le_refl _, by omega, h2⟩]
      · rw [if_neg (by omega), if_pos rfl, if_neg h2, if_neg (by omega), List.getElem?_eq_none (by omega)]
    · have e : (o + 1 ≤ j ∧ j < o + 1 + n ∧ j < zs.length) = (o ≤ j ∧ j < o + (n + 1) ∧ j < zs.length) := by rw [eq_iff_iff]; omega
      simp only [e]
      by_cases h2 : o ≤ j ∧ j < o + (n + 1) ∧ j < zs.length
      · rw [if_pos h2, if_pos h2]
      · rw [if_neg h2, if_neg h2, if_neg (fun e => h1 e.symm)]
theorem zeroFrom_all (zs : List Int) : zeroFrom zs 0 zs.length = List.replicate zs.length 0 := by
  apply List.ext_getElem?
  intro j
  rw [zeroFrom_at, List.getElem?_replicate]
  by_cases h : j < zs.length
  · rw [if_pos ⟨Nat.zero_le _, by omega, h⟩, if_pos h]
  · rw [if_neg (by omega), if_neg h, List.getElem?_eq_none (by omega)]
theorem Own.zeroed {k : IntKind} {e : TypeId} {lo hi g len cap : Nat} (h0 : (Lit.int k 0).wf = true) : ∀ (n o : Nat) (w : World) (zs : List Int), Own k e w lo hi (some ⟨g, 0, none⟩) len cap zs →
    Own k e (w.setCells g o (List.replicate n (.int k 0))) lo hi (some ⟨g, 0, none⟩) len cap (zeroFrom zs o n) ∧ Moved lo hi w (w.setCells g o (List.replicate n (.int k 0)))
  | 0, _, w, _, h => ⟨h, Moved.refl _ _ _⟩
  | n + 1, o, w, zs, h => by
    obtain ⟨s1, s2⟩ := h.stored o 0 h0
    obtain ⟨t1, t2⟩ := Own.zeroed h0 n (o + 1) _ _ s1
    exact ⟨t1, s2.trans t2⟩
theorem zero_int : ∀ w : World, (zeroValue 3).run Try.prog w = .ok (.int .i64 0) w := fun w => by kernel_rfl
/-- 'clear' as a run: an equation for the walk, and what it leaves. -/
theorem clear_run {w : World} {lo hi : Nat} {a : Option Addr} {len cap : Nat} {zs : List Int} (hown : Own .i64 3 w lo hi a len cap zs) (hn : 0 < len) (ty : TypeId) :
    ∃ w', (Builtin.clear_ #[25] ty #[.slice a len cap]).run Try.prog w = .ok (.tuple #[]) w' ∧ Own .i64 3 w' lo hi a len cap (List.replicate len 0) ∧ Moved lo hi w w' := by
  rcases hown.spot with ⟨_, h0, _⟩ | ⟨g, rfl, _, _, _, _, hc, hf⟩
  · omega
  have hrun := Lib.run_clear_slice (P := Try.prog) w 25 3 ty (.int .i64 0) Try.underlying25 zero_int rfl rfl g 0 len cap hn (fun j hj => by rw [Nat.zero_add, hc j hj]; rfl) (fun j _ => by rw [Nat.zero_add]; exact hf j)
  obtain ⟨k1, k2⟩ := hown.zeroed (by decide) len 0
  have hl := hown.1
  rw [← hl, zeroFrom_all, hl] at k1
  exact ⟨_, hrun, k1, k2⟩
end Go.Proofs.Ytedkeobhcpbigaa
/- The program's common multiple, and how it fills a null vector. -/
namespace Go.Proofs.Ytedkeobhcpbigaa
open Go.RowKit
end Go.Proofs.Ytedkeobhcpbigaa
/- The program's NullVector. -/
namespace Go.Proofs.Ytedkeobhcpbigaa
open Go.RowKit
theorem nullV_len (ms : List (List Int)) (z : List Int) : (nullV ms z).length ≤ 6 := by
  cases hv : bothV ms z
  · rw [null_none hv]; simp
  · rw [null_yes hv]
    split
    · simp
    · rw [nullAt_len]; exact (both_len hv).2
end Go.Proofs.Ytedkeobhcpbigaa
