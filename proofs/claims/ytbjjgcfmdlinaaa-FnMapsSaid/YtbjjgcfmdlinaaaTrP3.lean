/- MapOf, the program's. -/
import Derived.Test.YtbjjgcfmdlinaaaTrP1
import Derived.Test.YtbjjgcfmdlinaaaInoP
namespace Go.Proofs.Ytbjjgcfmdlinaaa
open Go.RowKit
/-- The node ahead of place k, or -1. -/
def lastV (h : List Int) (k : Nat) : Int := if k = 0 then -1 else h.getD (k - 1) 0
def stepV (x y : Int) : Int × Int := if y < x then (y, x) else (x, y)
def addR (S : List (Int × Int)) (h : List Int) : Nat → List (Int × Int)
  | 0 => S
  | k + 1 => if noHop (lastV h k) = true ∨ noHop (h.getD k 0) = true then addR S h k else addP (addR S h k) (stepV (lastV h k) (h.getD k 0))
theorem addR_skip {S : List (Int × Int)} {h : List Int} {k : Nat} (hx : noHop (lastV h k) = true ∨ noHop (h.getD k 0) = true) : addR S h (k + 1) = addR S h k := by
  show (if _ then _ else _) = _
  rw [if_pos hx]
theorem addR_put {S : List (Int × Int)} {h : List Int} {k : Nat} (h1 : noHop (lastV h k) = false) (h2 : noHop (h.getD k 0) = false) : addR S h (k + 1) = addP (addR S h k) (stepV (lastV h k) (h.getD k 0)) := by
  show (if _ then _ else _) = _
  rw [if_neg (by rw [h1, h2]; decide)]
theorem addR_len (S : List (Int × Int)) (h : List Int) : ∀ k, (addR S h k).length ≤ S.length + k
  | 0 => Nat.le_refl _
  | k + 1 => by
    have ih := addR_len S h k
    show (if _ then _ else _ : List (Int × Int)).length ≤ _
    split
    · omega
    · have := addP_len (addR S h k) (stepV (lastV h k) (h.getD k 0))
      omega
theorem addR_map {S acc : List (Int × Int)} {h : List Int} (hv : ∀ x ∈ h, -1 ≤ x) (hS : ∀ p, p ∈ S ↔ p ∈ acc) : ∀ k, k ≤ h.length → ∀ p, p ∈ addR S h k ↔ p ∈ mapR h acc k
  | 0, _, p => hS p
  | k + 1, hk, p => by
    have ih := addR_map hv hS k (by omega) p
    have hx : -1 ≤ h.getD k 0 := hv _ (getD_mem hk)
    unfold mapR
    by_cases h0 : k = 0
    · subst h0
      rw [if_pos rfl, addR_skip (.inl (by simp [lastV, noHop]))]
      exact hS p
    · rw [if_neg h0]
      have hl : lastV h k = h.getD (k - 1) 0 := by unfold lastV; rw [if_neg h0]
      have hy : -1 ≤ h.getD (k - 1) 0 := hv _ (getD_mem (by omega))
      by_cases h1 : 0 ≤ h.getD (k - 1) 0 ∧ 0 ≤ h.getD k 0
      · rw [if_pos h1, addR_put (by rw [hl]; exact decide_eq_false (by omega)) (decide_eq_false (by omega)), addP_mem, putL_mem, ih, hl]
        have e : stepV (h.getD (k - 1) 0) (h.getD k 0) = (minV (h.getD (k - 1) 0) (h.getD k 0), maxV (h.getD (k - 1) 0) (h.getD k 0)) := by
          unfold stepV minV maxV
          split <;> split <;> (try split) <;> (try rfl) <;> (apply Prod.ext <;> simp only <;> omega)
        rw [e, or_comm]
      · rw [if_neg h1, addR_skip (by rw [hl]; rcases Int.lt_or_le (h.getD (k - 1) 0) 0 with h2 | h2; exact .inl (decide_eq_true (by omega)); exact .inr (decide_eq_true (by omega)))]
        exact ih
theorem sees_off {k : IntKind} {w w' : World} {a : Option Addr} {len b : Nat} {zs : List Int} {S : List (Int × Int)} (h : Sees k w a len zs) (hm : MapP w b S) (hv : Moved b (b + 1) w w') : Sees k w' a len zs := by
  refine ⟨h.1, h.2.1, ?_⟩
  rcases h.2.2 with h0 | ⟨g, off, rfl, hg, hc⟩
  · exact .inl h0
  · by_cases h0 : len = 0
    · exact .inl h0
    · refine .inr ⟨g, off, rfl, Nat.lt_of_lt_of_le hg hv.size, fun j hj => ?_⟩
      have hne : g ≠ b := fun e => by
        obtain ⟨es, clock, hb, _⟩ := hm
        obtain ⟨o, ho, hoc⟩ := cells_of_cell (hc j hj)
        simp only at ho
        rw [e, hb] at ho
        cases ho
        cases hoc
      rw [World.cell?_of_block (w := w) (a := ⟨g, off + j, none⟩) (hv.block g hg (by omega))]
      exact hc j hj
theorem MapP.set {w : World} {b B o : Nat} {S : List (Int × Int)} (h : MapP w b S) (v : Value) (hne : b ≠ B) : MapP (w.setCell ⟨B, o, none⟩ v) b S := h.kept (grown_setCell _ _ _ _) (fun e => hne (by cases e; rfl))
set_option maxRecDepth 20000 in
set_option maxHeartbeats 1600000 in
theorem addAll_any (W : World) (b : Nat) (S : List (Int × Int)) (a : Option Addr) (len cap : Nat) (h : List Int) (hl : len ≤ 1048576) (hm : MapP W b S) (hs : Sees .i64 W a len h) :
    Calls Try.prog 37 #[.map (some b), .agg #[.slice a len cap]] W fun e w' => e = .returned (.tuple #[]) ∧ MapP w' b (addR S h len) ∧ Moved b (b + 1) W w' := by
  have HL := Lib.hid hs.1
  have HM := Lib.hid hm
  have HS := Lib.hid hs
  clear hs hm
  go_enter Try.func37, Try.ntmps37
  go_wp2
  obtain ⟨V, hV⟩ : ∃ V, V = W.alloc (.cells #[.slice a len cap] 36) := ⟨_, rfl⟩
  have HBV : Hid (Below W.heap.size W V) := Lib.hid (by rw [hV]; exact below_newT _ _)
  rw [← hV]
  clear hV
  go_loopw [11, 4, 6, 7] (fun i s _ _ wr => ∃ k : Nat, k ≤ len ∧ i = .int .i64 k ∧ s = .int .i64 (lastV h k) ∧ Hid (MapP wr b (addR S h k)) ∧ Hid (Moved b (b + 1) W wr)) (fun i _ _ _ _ => len - (intOf i).toNat)
  case atStart => exact ⟨0, Nat.zero_le _, rfl, rfl, Lib.hid (HM.out.below HBV.out), Lib.hid (Moved.of_below HBV.out)⟩
  case round =>
    obtain ⟨k, hk, rfl, rfl, HMR, HVR⟩ := hrel
    by_cases hlt : k < len
    · have hsr := sees_off HS.out HM.out HVR.out
      rcases hsr.2.2 with h0 | ⟨b1, o1, rfl, hb1, hc1⟩
      · omega
      have hx := hc1 k hlt
      have hkp : k < h.length := by rw [HL.out]; exact hlt
      have HXW := Lib.hid (hsr.2.1 _ (getD_mem hkp))
      have HLW : Hid ((Lit.int .i64 (lastV h k)).wf = true) := Lib.hid (by
        unfold lastV
        split
        · decide
        · exact hsr.2.1 _ (getD_mem (by omega)))
      obtain ⟨x, hxe⟩ : ∃ x, x = h.getD k 0 := ⟨_, rfl⟩
      obtain ⟨y, hye⟩ : ∃ y, y = lastV h k := ⟨_, rfl⟩
      rw [← hxe] at hx HXW
      rw [← hye] at HLW
      have HXE := Lib.hid hxe
      have HYE := Lib.hid hye
      have hnx : lastV h (k + 1) = x := by rw [hxe]; unfold lastV; rw [if_neg (by omega)]; rfl
      have HNX := Lib.hid hnx
      have k0 : (0 : Int) ≤ (k : Int) := by omega
      have k1 : (k : Int) < (len : Int) := by omega
      rw [← hye]
      obtain ⟨U, hU⟩ : ∃ U, U = wr.alloc (.cells #[.int .i64 y, .int .i64 x] 38) := ⟨_, rfl⟩
      have HBU : Hid (Below wr.heap.size wr U) := Lib.hid (by rw [hU]; exact below_newT _ _)
      have HPU : Hid (PairAt U wr.heap.size y x) := Lib.hid (by rw [hU]; exact pair_new _ _ _ _)
      have HMU := Lib.hid (HMR.out.below HBU.out)
      have HNE : Hid (b ≠ wr.heap.size) := Lib.hid (Nat.ne_of_lt HMR.out.lt)
      have p0 := HPU.out.c0
      have p1 := HPU.out.c1
      have q0 := HPU.out.f0
      have q1 := HPU.out.f1
      clear hsr hc1 hxe hye hnx hb1
      go_wp2_with fail
      rw [← hU]
      clear hU
      cases h1 : noHop y
      rotate_left
      · have H1 := Lib.hid h1
        have HA : Hid (addR S h (k + 1) = addR S h k) := Lib.hid (addR_skip (.inl (by rw [← HYE.out]; exact h1)))
        clear h1
        go_wp2_with (go_at_call 49; refine (hop_any _ _).mono ?_; rw [H1.out]; rintro e w2 ⟨rfl, rfl⟩)
        go_roundw
        case rel => exact ⟨k + 1, by omega, by go_num, by rw [HNX.out], Lib.hid (by rw [HA.out]; exact HMU.out), Lib.hid (HVR.out.trans (Moved.of_below HBU.out))⟩
        case measure => simp [intOf]; omega
      cases h2 : noHop x
      rotate_left
      · have H1 := Lib.hid h1
        have H2 := Lib.hid h2
        have HA : Hid (addR S h (k + 1) = addR S h k) := Lib.hid (addR_skip (.inr (by rw [← HXE.out]; exact h2)))
        clear h1 h2
        go_wp2_with (go_at_call 49; first | (with_reducible refine (hop_any y _).mono ?_; rw [H1.out]; rintro e w2 ⟨rfl, rfl⟩) | (with_reducible refine (hop_any x _).mono ?_; rw [H2.out]; rintro e w2 ⟨rfl, rfl⟩))
        go_roundw
        case rel => exact ⟨k + 1, by omega, by go_num, by rw [HNX.out], Lib.hid (by rw [HA.out]; exact HMU.out), Lib.hid (HVR.out.trans (Moved.of_below HBU.out))⟩
        case measure => simp [intOf]; omega
      have HA : Hid (addR S h (k + 1) = addP (addR S h k) (stepV y x)) := Lib.hid (by rw [HYE.out, HXE.out]; exact addR_put (by rw [← HYE.out]; exact h1) (by rw [← HXE.out]; exact h2))
      have H1 := Lib.hid h1
      have H2 := Lib.hid h2
      clear h1 h2
      by_cases h3 : x < y
      · have HST : Hid (stepV y x = (x, y)) := Lib.hid (by unfold stepV; rw [if_pos h3])
        go_wp2_with (first
          | (go_at_call 49; first | (with_reducible refine (hop_any y _).mono ?_; rw [H1.out]; rintro e w2 ⟨rfl, rfl⟩) | (with_reducible refine (hop_any x _).mono ?_; rw [H2.out]; rintro e w2 ⟨rfl, rfl⟩))
          | (at_mapUpdate; refine wp_mapPutP rfl _ _ _ rfl ((HMU.out.set _ HNE.out).set _ HNE.out) Try.underlying64 rfl rfl ⟨HXW.out, HLW.out⟩ rfl ?_; intro w1 hM1 hG1; have HM1 := Lib.hid hM1; have HV1 := Lib.hid ((HVR.out.trans (Moved.of_below ((HBU.out.setCell (p := ⟨_, 0, none⟩) (Nat.le_refl _) _).setCell (p := ⟨_, 1, none⟩) (Nat.le_refl _) _))).trans (Moved.of_grown hG1 (Nat.le_refl _) (Nat.lt_succ_self _))); clear hM1 hG1))
        go_roundw
        case rel => exact ⟨k + 1, by omega, by go_num, by rw [HNX.out], Lib.hid (by rw [HA.out, HST.out]; exact HM1.out), HV1⟩
        case measure => simp [intOf]; omega
      · have HST : Hid (stepV y x = (y, x)) := Lib.hid (by unfold stepV; rw [if_neg h3])
        go_wp2_with (first
          | (go_at_call 49; first | (with_reducible refine (hop_any y _).mono ?_; rw [H1.out]; rintro e w2 ⟨rfl, rfl⟩) | (with_reducible refine (hop_any x _).mono ?_; rw [H2.out]; rintro e w2 ⟨rfl, rfl⟩))
          | (at_mapUpdate; refine wp_mapPutP rfl _ _ _ rfl HMU.out Try.underlying64 rfl rfl ⟨HLW.out, HXW.out⟩ rfl ?_; intro w1 hM1 hG1; have HM1 := Lib.hid hM1; have HV1 := Lib.hid ((HVR.out.trans (Moved.of_below HBU.out)).trans (Moved.of_grown hG1 (Nat.le_refl _) (Nat.lt_succ_self _))); clear hM1 hG1))
        go_roundw
        case rel => exact ⟨k + 1, by omega, by go_num, by rw [HNX.out], Lib.hid (by rw [HA.out, HST.out]; exact HM1.out), HV1⟩
        case measure => simp [intOf]; omega
    · obtain rfl : k = len := by omega
      go_wp2
      go_end0
      exact ⟨rfl, HMR.out, HVR.out⟩
end Go.Proofs.Ytbjjgcfmdlinaaa
/- MapOf, the program's: all traces. -/
namespace Go.Proofs.Ytbjjgcfmdlinaaa
open Go.RowKit
def allP (ms : List (List Int)) : Nat → List (Int × Int)
  | 0 => []
  | i + 1 => addR (allP ms i) (row ms i) (row ms i).length
theorem allP_len (ms : List (List Int)) : ∀ i, (allP ms i).length ≤ tot ms i
  | 0 => Nat.zero_le _
  | i + 1 => by
    have h1 := allP_len ms i
    have h2 := addR_len (allP ms i) (row ms i) (row ms i).length
    simp only [allP, tot]
    omega
theorem row_hop {ms : List (List Int)} (h : areT ms = true) {i : Nat} (hi : i < ms.length) : ∀ x ∈ row ms i, -1 ≤ x := fun x hx => by
  have h1 := (areT_true.1 h).1 i hi
  obtain ⟨k, hk, rfl⟩ := List.getElem_of_mem hx
  have h2 := (trOk_true.1 h1).2 k hk
  unfold trAt at h2
  rw [Bool.and_eq_true, inR_true] at h2
  have h3 := h2.1.1
  rw [show (row ms i).getD k 0 = (row ms i)[k] by simp [List.getD, hk]] at h3
  exact h3
theorem allP_map {ms : List (List Int)} (h : areT ms = true) : ∀ i, i ≤ ms.length → ∀ p, p ∈ allP ms i ↔ p ∈ mapK ms i
  | 0, _, p => Iff.rfl
  | i + 1, hi, p => addR_map (row_hop h (by omega)) (allP_map h i (by omega)) _ (Nat.le_refl _) p
set_option maxRecDepth 20000 in
set_option maxHeartbeats 1600000 in
theorem mapP_any (W : World) (a : Option Addr) (len cap : Nat) (ms : List (List Int)) (hsm : SmallM ms) (hs : SeesM W a len ms) :
    Calls Try.prog 11 #[.slice a len cap] W (MadeL (mapV ms) W) := by
  have HS := Lib.hid hs
  have HM := Lib.hid hsm
  have HL := Lib.hid hs.1
  have hl : len ≤ 1048576 := by unfold SmallM at hsm; have := hs.1; omega
  clear hs hsm
  cases hA : areT ms
  · have HA := Lib.hid hA
    have HE : Hid (mapV ms = []) := Lib.hid (by unfold mapV; rw [if_neg (by rw [hA]; decide)])
    rw [HE.out]
    clear hA
    go_enter Try.func11, Try.ntmps11
    go_wp2_with (go_at_call 12; refine (areTP_any _ a len cap ms HM.out HS.out).mono ?_; rw [HA.out]; rintro e w1 ⟨rfl, hb1⟩; have HB1 := Lib.hid hb1; clear hb1)
    go_ret
    exact ⟨_, _, _, rfl, ownL_empty _ _ HB1.out.size, HB1.out.alloc HB1.out.size _⟩
  · have HA := Lib.hid hA
    have HMA := Lib.hid (allP_map hA ms.length (Nat.le_refl _))
    have HE : Hid (mapV ms = mapK ms ms.length) := Lib.hid (by unfold mapV; rw [if_pos hA])
    have HZL : Hid (∀ i, i < len → (row ms i).length ≤ 1048576) := Lib.hid (fun i hi => by
      have h3 := HM.out.row (r := i) (by rw [HL.out]; exact hi)
      omega)
    have HAL : Hid ((allP ms ms.length).length ≤ 1048576) := Lib.hid (by
      have h1 := allP_len ms ms.length
      have h2 := HM.out
      unfold SmallM at h2
      omega)
    clear hA
    have hmm := @run_makeMap Try.prog
    go_enter Try.func11, Try.ntmps11
    go_wp2_with (go_at_call 12; refine (areTP_any _ a len cap ms HM.out HS.out).mono ?_; rw [HA.out]; rintro e w1 ⟨rfl, hb1⟩; have HB1 := Lib.hid hb1; clear hb1)
    go_loopw [13, 5] (fun i _ wr => ∃ k : Nat, k ≤ len ∧ i = .int .i64 k ∧ Hid (MapP wr w1.heap.size (allP ms k)) ∧ Hid (Below W.heap.size W wr)) (fun i _ _ => len - (intOf i).toNat)
    case atStart => exact ⟨0, Nat.zero_le _, rfl, Lib.hid (mapP_made w1), Lib.hid (HB1.out.alloc HB1.out.size _)⟩
    case round =>
      obtain ⟨k, hk, rfl, HMR, HBR⟩ := hrel
      by_cases hlt : k < len
      · obtain ⟨b, off, ar, cr, rfl, hbl, hc, _, _, hsr⟩ := HS.out.2 k hlt
        obtain ⟨zk, hzk⟩ : ∃ zk, zk = row ms k := ⟨_, rfl⟩
        have hcw := (HBR.out.cell (p := ⟨b, off + k, none⟩) hbl).trans hc
        rw [← hzk] at hcw hsr
        obtain ⟨U, hU⟩ : ∃ U, U = wr.alloc (.cells #[.slice ar zk.length cr] 36) := ⟨_, rfl⟩
        have HBU : Hid (Below wr.heap.size wr U) := Lib.hid (by rw [hU]; exact below_newT _ _)
        have HSU := Lib.hid ((hsr.below HBR.out).below HBU.out)
        have HMU := Lib.hid (HMR.out.below HBU.out)
        have hcU : U.cell? ⟨wr.heap.size, 0, none⟩ = some (.slice ar zk.length cr) := by rw [hU]; go_simp
        have HZ : Hid (zk.length ≤ 1048576) := Lib.hid (by rw [hzk]; exact HZL.out k hlt)
        have HN : Hid (allP ms (k + 1) = addR (allP ms k) zk zk.length) := Lib.hid (by rw [hzk]; rfl)
        have k0 : (0 : Int) ≤ (k : Int) := by omega
        have k1 : (k : Int) < (len : Int) := by omega
        clear hc hsr hzk
        go_wp2_with fail
        rw [← hU]
        clear hU
        go_wp2_with (go_at_call 37; refine (addAll_any U _ _ ar _ cr zk HZ.out HMU.out HSU.out).mono ?_; rintro e w2 ⟨rfl, hm2, hv2⟩; have HM2 := Lib.hid hm2; have HB2 := Lib.hid (below_moved (below_up HBR.out HBU.out (Nat.le_refl _)) hv2 (Nat.le_refl _) HB1.out.size); clear hm2 hv2)
        go_roundw
        case rel => exact ⟨k + 1, by omega, by go_num, Lib.hid (by rw [HN.out]; exact HM2.out), HB2⟩
        case measure => simp [intOf]; omega
      · obtain rfl : k = len := by omega
        have HMR2 : Hid (MapP wr w1.heap.size (allP ms ms.length)) := Lib.hid (by rw [HL.out]; exact HMR.out)
        go_wp2_with (go_at_call 38; refine (inOrder_any wr _ _ HMR2.out HAL.out).mono ?_; rintro e w3 ⟨ys, hp, has, a3, l3, c3, rfl, ho3, hb3⟩; have HYS : Hid (ys = mapV ms) := Lib.hid (by rw [HE.out]; exact ascL_uniq has (mapK_asc ms _) (fun p => hp.mem_iff.symm.trans (HMA.out p))); have HO3 := Lib.hid (ho3.wide HBR.out.size (Nat.le_refl _) (Nat.le_refl _)); have HB3 := Lib.hid (below_up HBR.out hb3 (Nat.le_refl _)); clear hp has ho3 hb3)
        go_ret
        exact ⟨_, _, _, rfl, by rw [← HYS.out]; exact HO3.out, HB3.out⟩
end Go.Proofs.Ytbjjgcfmdlinaaa
