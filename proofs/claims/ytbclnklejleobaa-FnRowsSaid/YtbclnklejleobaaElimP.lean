/- The program's elimination. -/
import Derived.Test.YtbclnklejleobaaClrP
import Derived.Test.YtbclnklejleobaaOwnB
import Derived.Test.YtbclnklejleobaaCopyR
namespace Go.Proofs.Ytbclnklejleobaa
open Go.RowKit
/-- What a call of eliminate finds: the rows P, of which the first r are reduced, at column k. -/
structure ElimAt (n : Nat) (ms P : List (List Int)) (r k : Nat) : Prop where
  sim : Sim P (redL (ms.map tidyL) k).1
  same : 1 ≤ r → P = (redL (ms.map tidyL) k).1
  rr : r = (redL (ms.map tidyL) k).2
  fit : k < n → ∀ i, i < P.length → Fit 2985984 (row P i)
theorem ElimAt.len {n : Nat} {ms P : List (List Int)} {r k : Nat} (h : ElimAt n ms P r k) (hf : Fine n n ms) (hk : k ≤ n) : P.length = ms.length := by
  rw [h.sim.1, (hf.inv hk).len]
theorem ElimAt.wid {n : Nat} {ms P : List (List Int)} {r k : Nat} (h : ElimAt n ms P r k) (hf : Fine n n ms) (hk : k ≤ n) {i : Nat} (hi : i < P.length) : (row P i).length = n := by
  have h1 := h.sim.2 i hi
  have h2 := (hf.inv hk).wid i (by rw [← h.len hf hk]; exact hi)
  rw [← h1, tidyL_len] at h2
  exact h2
theorem ElimAt.rle {n : Nat} {ms P : List (List Int)} {r k : Nat} (h : ElimAt n ms P r k) (hf : Fine n n ms) (hk : k ≤ n) : r ≤ P.length := by
  rw [h.len hf hk, h.rr]
  exact (hf.inv hk).rle
theorem ElimAt.front {n : Nat} {ms P : List (List Int)} {r k : Nat} (h : ElimAt n ms P r k) : P.take r = (redL (ms.map tidyL) k).1.take r := by
  rcases Nat.eq_zero_or_pos r with h0 | h0
  · subst h0; rfl
  · rw [h.same h0]
/-- The cells as the elimination of a matrix leaves them. -/
theorem fine_fit {n : Nat} {ms : List (List Int)} (hf : Fine n n ms) {k : Nat} (hk : k < n) {i : Nat} (hi : i < ms.length) : Fit 2985984 (row (redL (ms.map tidyL) k).1 i) := fun j => by
  have I := hf.inv (k := k) (by omega)
  rcases Nat.lt_or_ge j n with hj | hj
  · have := inv_bound (N := 2) I hk hf.q6 hf.small (j := j) (fun i hi => hf.small i hi j hj) hi
    omega
  · rw [vec_beyond (by rw [I.wid i hi]; exact hj)]
    decide
theorem ElimAt.start {n : Nat} {ms : List (List Int)} (hf : Fine n n ms) : ElimAt n ms ms 0 0 :=
  ⟨sim_start ms, fun h => absurd h (by decide), rfl, fun _ i hi j => by
    rcases Nat.lt_or_ge j n with hj | hj
    · have := hf.small i hi j hj; omega
    · rw [vec_beyond (by rw [hf.wid i hi]; exact hj)]; decide⟩
theorem ElimAt.pass {n : Nat} {ms P : List (List Int)} {r k : Nat} (h : ElimAt n ms P r k) (hp : findP P r k = P.length) (hr : r ≤ P.length) : ElimAt n ms P r (k + 1) := by
  have e : redL (ms.map tidyL) (k + 1) = redL (ms.map tidyL) k := stepL_pass (by rw [← h.rr, ← h.sim.find hr, hp, h.sim.1])
  exact ⟨by rw [e]; exact h.sim, fun h1 => by rw [e]; exact h.same h1, by rw [e]; exact h.rr, fun hk => h.fit (by omega)⟩
theorem ElimAt.step {n : Nat} {ms P : List (List Int)} {r k : Nat} (h : ElimAt n ms P r k) (hf : Fine n n ms) (hk : k < n) (hp : findP P r k ≠ P.length) :
    ElimAt n ms (clrBy (fun z => clearL z (row (pswap P r (findP P r k)) r) k) (pswap P r (findP P r k)) r P.length) (r + 1) (k + 1) := by
  have hr := h.rle hf (Nat.le_of_lt hk)
  have hfd := h.sim.find (k := k) hr
  have e : (clrBy (fun z => clearL z (row (pswap P r (findP P r k)) r) k) (pswap P r (findP P r k)) r P.length, r + 1) = redL (ms.map tidyL) (k + 1) := by
    show _ = stepL k (redL (ms.map tidyL) k)
    have := h.sim.step (n := n) (k := k) (s := redL (ms.map tidyL) k) (fun i hi => h.wid hf (Nat.le_of_lt hk) hi) hk (by rw [← h.rr]; exact hr) (by rw [← h.rr, ← hfd, ← h.sim.1]; exact hp)
    rw [← h.rr, ← hfd] at this
    exact this
  have e1 := congrArg Prod.fst e
  have e2 := congrArg Prod.snd e
  simp only at e1 e2
  refine ⟨by rw [e1]; exact sim_self (hf.inv (k := k + 1) (by omega)), fun _ => e1, e2, fun hk2 i hi => ?_⟩
  rw [e1]
  exact fine_fit hf hk2 (by rw [← (hf.inv (k := k + 1) (by omega)).len, ← e1]; exact hi)
/-- What eliminate leaves. -/
def ElimEnd (n : Nat) (ms : List (List Int)) (lo hi : Nat) (a : Option Addr) (cap : Nat) (w : World) (e : Ending) (w' : World) : Prop :=
  ∃ r, e = .returned (.slice a r cap) ∧ OwnM w' lo hi a r cap (rrL ms n) ∧ Moved lo hi w w'
theorem OwnM.block {w : World} {lo hi : Nat} {a : Option Addr} {len cap : Nat} {ms : List (List Int)} (h : OwnM w lo hi a len cap ms) (hl : 0 < len) : ∃ g, a = some ⟨g, 0, none⟩ ∧ g < w.heap.size ∧ len ≤ cap ∧ ∀ i, i < len → w.frozen? ⟨g, i, none⟩ = false := by
  obtain ⟨h1, h2, h3, A, C, h4, h5⟩ := h
  rcases ownsRow_spot h4 with ⟨_, h0⟩ | ⟨g, rfl, _, hg, hc, _, _, hf⟩
  · omega
  · exact ⟨g, rfl, hg, hc, fun i _ => hf i⟩
set_option maxRecDepth 20000 in
set_option maxHeartbeats 4000000 in
theorem elimP_any (n : Nat) (ms : List (List Int)) (hf : Fine n n ms) (hn1 : 1 ≤ n) : ∀ (d k r : Nat) (P : List (List Int)) (W : World) (lo hi : Nat) (a : Option Addr) (len cap : Nat), k + d = n → ElimAt n ms P r k → OwnM W lo hi a len cap P → 0 < len → lo ≤ W.heap.size →
    Calls Try.prog 36 #[.slice a len cap, .int .i64 (r : Int), .int .i64 (k : Int)] W (ElimEnd n ms lo hi a cap W) := by
  intro d
  induction d with
  | zero =>
    intro k r P W lo hi a len cap hkd hE hO hl1 hlo
    obtain rfl : k = n := by omega
    have HO := Lib.hid hO
    have HL := Lib.hid hO.1
    have hl12 : len ≤ 12 := by have := hf.len; rw [← hE.len hf (Nat.le_refl _), hO.1] at this; exact this
    have hrl : r ≤ len := by have := hE.rle hf (Nat.le_refl _); rw [hO.1] at this; exact this
    have hn6 : k ≤ 6 := hf.q6
    obtain ⟨g, rfl, hgs, hcap, _⟩ := hO.block hl1
    have HX : Hid (P.take r = rrL ms k) := Lib.hid (by rw [hE.front, hE.rr]; rfl)
    by_cases hrk : r = len
    · subst hrk
      clear hE hO hf
      go_enter Try.func36, Try.ntmps36
      go_wp2
      go_ret
      exact ⟨_, rfl, by rw [← HX.out]; exact HO.out.front (Nat.le_refl _), Moved.refl _ _ _⟩
    · have hrlt : r < len := by omega
      obtain ⟨b, off, ar, cr, ha, _, hc, _, _, _⟩ := hO.sees.2 r hrlt
      cases ha
      rw [Nat.zero_add, hE.wid hf (Nat.le_refl _) (by rw [hO.1]; exact hrlt)] at hc
      clear hE hO hf
      go_enter Try.func36, Try.ntmps36
      go_wp2
      go_ret
      exact ⟨_, rfl, by rw [← HX.out]; exact HO.out.front hrl, Moved.refl _ _ _⟩
  | succ d ih =>
    intro k r P W lo hi a len cap hkd hE hO hl1 hlo
    have HE := Lib.hid hE
    have HO := Lib.hid hO
    have HL := Lib.hid hO.1
    have HF := Lib.hid hf
    have HIH := Lib.hid ih
    have hl12 : len ≤ 12 := by have := hf.len; rw [← hE.len hf (by omega), hO.1] at this; exact this
    have hrl : r ≤ len := by have := hE.rle hf (by omega); rw [hO.1] at this; exact this
    have hn6 : n ≤ 6 := hf.q6
    obtain ⟨g, rfl, hgs, hcap, hfz⟩ := hO.block hl1
    have HFZ := Lib.hid hfz
    have HW : Hid (∀ i, i < len → (row P i).length = n) := Lib.hid (fun i hi => hE.wid hf (by omega) (by rw [hO.1]; exact hi))
    have hkn : k < n := by omega
    have HFT : Hid (∀ i, i < len → Fit 2985984 (row P i)) := Lib.hid (fun i hi => hE.fit hkn i (by rw [hO.1]; exact hi))
    have HS := Lib.hid hO.sees
    clear hE hO hf ih hfz
    by_cases hrk : r = len
    · have HX : Hid (P.take r = rrL ms n) := Lib.hid (by
        have h1 := HE.out.front
        rw [h1]
        unfold rrL
        have h2 := red_full (rows := ms.map tidyL) (k := k) (by rw [← HE.out.rr, ← HE.out.sim.1, HL.out]; exact hrk) (d + 1)
        rw [hkd] at h2
        rw [h2, ← HE.out.rr])
      subst hrk
      go_enter Try.func36, Try.ntmps36
      go_wp2
      go_ret
      exact ⟨_, rfl, by rw [← HX.out]; exact HO.out.front (Nat.le_refl _), Moved.refl _ _ _⟩
    · have hrlt : r < len := by omega
      obtain ⟨b0, off0, ar, cr, ha, _, hcr, _, _, _⟩ := HS.out.2 r hrlt
      cases ha
      rw [Nat.zero_add, HW.out r hrlt] at hcr
      obtain ⟨p1, p2, p3, p4⟩ := findP_spec (rows := P) (r := r) (k := k) (by rw [HL.out]; exact hrl)
      have HST : Hid (findP P r k ≠ P.length → ElimAt n ms (clrBy (fun z => clearL z (row (pswap P r (findP P r k)) r) k) (pswap P r (findP P r k)) r P.length) (r + 1) (k + 1)) := Lib.hid (fun h => HE.out.step HF.out hkn h)
      have HPS : Hid (findP P r k = P.length → ElimAt n ms P r (k + 1)) := Lib.hid (fun h => HE.out.pass h (by rw [HL.out]; exact hrl))
      obtain ⟨x, hx⟩ : ∃ x, x = findP P r k := ⟨_, rfl⟩
      rw [← hx] at p1 p2 p3 p4 HST HPS
      rw [HL.out] at p2 p4 HST HPS
      have HPZ := Lib.hid p3
      have HPN := Lib.hid p4
      have hrkb : ((r : Int) == (len : Int)) = false := by simp; omega
      have hknb : ((k : Int) == (n : Int)) = false := by simp; omega
      clear hx p3 p4
      go_enter Try.func36, Try.ntmps36
      go_wp2_with fail
      go_loop [7] (fun p => ∃ i : Nat, r ≤ i ∧ i ≤ x ∧ p = .int .i64 i) (fun p => len - (intOf p).toNat)
      case atStart => exact ⟨r, Nat.le_refl _, p1, rfl⟩
      case round =>
        obtain ⟨i, hi0, hi1, rfl⟩ := hrel
        by_cases hix : i < x
        · obtain ⟨b1, off1, ax, cx, ha, _, hcx, _, _, hsx⟩ := HS.out.2 i (by omega)
          cases ha
          rw [Nat.zero_add, HW.out i (by omega)] at hcx
          rw [HW.out i (by omega)] at hsx
          rcases hsx.2.2 with h0 | ⟨b2, o2, rfl, hb2, hc2⟩
          · omega
          · have hcc := hc2 k hkn
            rw [show (row P i).getD k 0 = 0 from HPZ.out i hi0 hix] at hcc
            clear hsx hc2
            go_wp2
            go_round
            case rel => exact ⟨i + 1, by omega, by omega, by go_num⟩
            case measure => simp [intOf]; omega
        · obtain rfl : i = x := by omega
          by_cases hxk : i = len
          · subst hxk
            go_wp2_with (go_at_call 36; refine (HIH.out (k + 1) r P _ lo hi (some ⟨g, 0, none⟩) i cap (by omega) (HPS.out rfl) HO.out hl1 hlo).mono ?_; rintro e w2 ⟨r2, rfl, ho2, hm2⟩; have HO2 := Lib.hid ho2; have HM2 := Lib.hid hm2; clear ho2 hm2)
            go_ret
            exact ⟨_, rfl, HO2.out, HM2.out⟩
          · have hil : i < len := by omega
            have hne : vec (row P i) k ≠ 0 := HPN.out.resolve_left hxk
            obtain ⟨b1, off1, ax, cx, ha, _, hcx, _, _, hsx⟩ := HS.out.2 i hil
            cases ha
            rw [Nat.zero_add, HW.out i hil] at hcx
            rw [HW.out i hil] at hsx
            have hfi := HFZ.out i hil
            have hfr := HFZ.out r hrlt
            have HSW := Lib.hid (HO.out.swap hrlt hil hcr hcx)
            rcases hsx.2.2 with h0 | ⟨b2, o2, rfl, hb2, hc2⟩
            · omega
            · have hcc := hc2 k hkn
              obtain ⟨y, hy⟩ : ∃ y, y = vec (row P i) k := ⟨_, rfl⟩
              rw [show (row P i).getD k 0 = y from hy.symm] at hcc
              rw [← hy] at hne
              have hi0' : (0 : Int) ≤ (i : Int) := Int.natCast_nonneg _
              have hii : (i : Int) < (len : Int) := by omega
              have hr0' : (0 : Int) ≤ (r : Int) := Int.natCast_nonneg _
              have hri : (r : Int) < (len : Int) := by omega
              clear hsx hc2 hy
              by_cases hir : i = r
              · subst hir
                have hEq := hcr.symm.trans hcx
                simp only [Option.some.injEq, Value.slice.injEq, true_and] at hEq
                obtain ⟨rfl, rfl⟩ := hEq
                obtain ⟨V, hV⟩ : ∃ V, V = ((W.setCell ⟨g, i, none⟩ (.slice (some ⟨b2, o2, none⟩) n cr)).setCell ⟨g, i, none⟩ (.slice (some ⟨b2, o2, none⟩) n cr)).drew := ⟨_, rfl⟩
                have HV : Hid (OwnM V lo hi (some ⟨g, 0, none⟩) len cap ((P.set i (row P i)).set i (row P i)) ∧ Moved lo hi W V) := Lib.hid (by rw [hV]; exact ⟨HSW.out.1.below (Below.refl _ _).drew, HSW.out.2.trans (Moved.of_below (Below.refl _ _).drew)⟩)
                have hrowR : row ((P.set i (row P i)).set i (row P i)) i = row P i := (by rw [row_set_same (by rw [List.length_set, HL.out]; exact hil)])
                have hVs : lo ≤ V.heap.size := Nat.le_trans hlo HV.out.2.size
                obtain ⟨g', aR, cR, l2, h2, hg', hcR, hoR, hkR⟩ := HV.out.1.inner i (by omega) hVs
                cases hg'
                rw [hrowR, HW.out i hil] at hcR hoR hkR
                have HOR := Lib.hid hoR
                have HKR := Lib.hid hkR
                have hn7 : n ≤ 1073741824 := by omega
                have HSL : Hid ((pswap P i i).length = len) := Lib.hid (by rw [pswap_len, HL.out])
                have HSQ : Hid (∀ Q : List Int → Prop, Q (tidyL (row P i)) → (∀ u, u < len → Q (row P u)) → ∀ u, u < len → Q (row (pswap P i i) u)) := Lib.hid (fun Q h0 h1 u hu => by
                  by_cases e : u = i
                  · subst e; rw [pswap_at (by rw [HL.out]; exact hu)]; exact h0
                  · rw [pswap_off (by rw [HL.out]; exact hil) e]
                    refine h1 _ ?_
                    unfold swp
                    split <;> (try split) <;> omega)
                have HSW2 := Lib.hid (HSQ.out (fun z => z.length = n) (by rw [tidyL_len]; exact HW.out i hil) HW.out)
                have HSF := Lib.hid (HSQ.out (Fit 2985984) (HFT.out i hil).tidy HFT.out)
                have HSP : Hid (((P.set i (row P i)).set i (row P i)).set i (tidyL (row P i)) = pswap P i i) := Lib.hid rfl
                have hxk2 : i ≠ len := hxk
                have HST2 := Lib.hid (HST.out hxk2)
                have HVM := Lib.hid HV.out.2
                clear hoR hkR hrowR HSQ HSW HS
                go_wp2_with fail
                go_region_with (fail)
                all_goals (rw [← hV])
                all_goals (clear hV hcr hcx hcc hfi hfr)
                all_goals
                  go_wp2_with (go_at_call 61; refine (shorten_any _ l2 h2 aR n cR (row P i) hn7 HOR.out ((HFT.out i hil).up (by decide))).mono ?_; rintro e w2 ⟨rfl, ho2, hm2⟩; have HK2 := Lib.hid (HKR.out w2 _ ho2 hm2); clear ho2 hm2)
                all_goals
                  obtain ⟨S, hS⟩ : ∃ S, S = pswap P i i := ⟨_, rfl⟩
                  rw [HSP.out, ← hS] at HK2
                  rw [← hS] at HSL HSW2 HSF HST2
                  clear hS HSP hcR HOR HKR HV
                  go_loopw [73, 8, 9] (fun ix _ _ wr => ∃ u : Nat, u ≤ len ∧ ix = .int .i64 u ∧ OwnM wr lo hi (some ⟨g, 0, none⟩) len cap (clrBy (fun z => clearL z (row S i) k) S i u) ∧ Moved lo hi W wr) (fun ix _ _ _ => len - (intOf ix).toNat)
                  case atStart => exact ⟨0, Nat.zero_le _, rfl, by rw [clrBy_zero]; exact HK2.out.1, HVM.out.trans HK2.out.2⟩
                  case round =>
                    obtain ⟨u, hu, rfl, ho, hb⟩ := hrel
                    have HO3 := Lib.hid ho
                    have HB3 := Lib.hid hb
                    have hlo3 : lo ≤ wr.heap.size := Nat.le_trans hlo hb.size
                    by_cases hul : u < len
                    · by_cases huR : u = i
                      · have hsu := ho.sees.2 u hul
                        obtain ⟨b5, off5, au, cu, ha5, _, hcu, _, _, _⟩ := hsu
                        cases ha5
                        rw [Nat.zero_add] at hcu
                        rw [clrBy_ahead (by rw [HSL.out]; exact hul) (Nat.le_refl _), HSW2.out u hul] at hcu
                        clear ho hb
                        subst huR
                        go_wp2
                        go_roundw
                        case rel => exact ⟨u + 1, by omega, by go_num, by rw [← clrBy_same (by rw [HSL.out]; exact hul) (.inl rfl)]; exact HO3.out, HB3.out⟩
                        case measure => simp [intOf]; omega
                      · have hin := ho.inner2 u hul i (by omega) (fun e => huR e.symm) hlo3
                        rw [clrBy_pivot (by rw [HSL.out]; omega), clrBy_ahead (by rw [HSL.out]; exact hul) (Nat.le_refl _), HSW2.out u hul, HSW2.out i (by omega)] at hin
                        obtain ⟨g', au, cu, l3, h3, aR3, cR3, ⟨hcR3, hsR3, hnR3⟩, hg', hcu, hou, hku⟩ := hin
                        cases hg'
                        have HSET := Lib.hid (clrBy_set (f := fun z => clearL z (row S i) k) (R := S) (r := i) (u := u) (by rw [HSL.out]; exact hul) huR)
                        have HSR3 := Lib.hid hsR3
                        have HNR3 := Lib.hid hnR3
                        have HOU := Lib.hid hou
                        have HKU := Lib.hid hku
                        have huRb : ((u : Int) != (i : Int)) = true := by simp; omega
                        clear ho hb hsR3 hnR3 hou hku
                        go_wp2_with (go_at_call 46; refine (clearCol_any _ l3 h3 au n cu aR3 cR3 (row S u) (row S i) k hn7 hkn HOU.out HSR3.out HNR3.out ((HSF.out u hul).up (by decide)) ((HSF.out i (by omega)).up (by decide)) ((HSF.out u hul).up (by decide) k) ((HSF.out i (by omega)).up (by decide) k)).mono ?_; rintro e w5 ⟨rfl, ho5, hm5⟩; have HK5 := Lib.hid (HKU.out w5 _ ho5 hm5); clear ho5 hm5)
                        go_roundw
                        case rel => exact ⟨u + 1, by omega, by go_num, by have h := HK5.out.1; rw [HSET.out] at h; exact h, HB3.out.trans HK5.out.2⟩
                        case measure => simp [intOf]; omega
                    · obtain rfl : u = len := by omega
                      clear ho hb
                      go_wp2_with (go_at_call 36; refine (HIH.out (k + 1) (i + 1) _ _ lo hi (some ⟨g, 0, none⟩) u cap (by omega) HST2.out HO3.out hl1 hlo3).mono ?_; rintro e w6 ⟨r6, rfl, ho6, hm6⟩; have HO6 := Lib.hid ho6; have HM6 := Lib.hid hm6; clear ho6 hm6)
                      go_ret
                      exact ⟨_, rfl, HO6.out, HB3.out.trans HM6.out⟩
              · have hri2 : ¬ r = i := fun e => hir e.symm
                obtain ⟨V, hV⟩ : ∃ V, V = ((W.setCell ⟨g, r, none⟩ (.slice (some ⟨b2, o2, none⟩) n cx)).setCell ⟨g, i, none⟩ (.slice ar n cr)).drew := ⟨_, rfl⟩
                have HV : Hid (OwnM V lo hi (some ⟨g, 0, none⟩) len cap ((P.set r (row P i)).set i (row P r)) ∧ Moved lo hi W V) := Lib.hid (by rw [hV]; exact ⟨HSW.out.1.below (Below.refl _ _).drew, HSW.out.2.trans (Moved.of_below (Below.refl _ _).drew)⟩)
                have hrowR : row ((P.set r (row P i)).set i (row P r)) r = row P i := (by rw [row_set_other hri2, row_set_same (by rw [HL.out]; exact hrlt)])
                have hVs : lo ≤ V.heap.size := Nat.le_trans hlo HV.out.2.size
                obtain ⟨g', aR, cR, l2, h2, hg', hcR, hoR, hkR⟩ := HV.out.1.inner r (by omega) hVs
                cases hg'
                rw [hrowR, HW.out i hil] at hcR hoR hkR
                have HOR := Lib.hid hoR
                have HKR := Lib.hid hkR
                have hn7 : n ≤ 1073741824 := by omega
                have HSL : Hid ((pswap P r i).length = len) := Lib.hid (by rw [pswap_len, HL.out])
                have HSQ : Hid (∀ Q : List Int → Prop, Q (tidyL (row P i)) → (∀ u, u < len → Q (row P u)) → ∀ u, u < len → Q (row (pswap P r i) u)) := Lib.hid (fun Q h0 h1 u hu => by
                  by_cases e : u = r
                  · subst e; rw [pswap_at (by rw [HL.out]; exact hu)]; exact h0
                  · rw [pswap_off (by rw [HL.out]; exact hil) e]
                    refine h1 _ ?_
                    unfold swp
                    split <;> (try split) <;> omega)
                have HSW2 := Lib.hid (HSQ.out (fun z => z.length = n) (by rw [tidyL_len]; exact HW.out i hil) HW.out)
                have HSF := Lib.hid (HSQ.out (Fit 2985984) (HFT.out i hil).tidy HFT.out)
                have HSP : Hid (((P.set r (row P i)).set i (row P r)).set r (tidyL (row P i)) = pswap P r i) := Lib.hid rfl
                have hxk2 : i ≠ len := hxk
                have HST2 := Lib.hid (HST.out hxk2)
                have HVM := Lib.hid HV.out.2
                clear hoR hkR hrowR HSQ HSW HS
                go_wp2_with fail
                go_region_with (fail)
                all_goals (rw [← hV])
                all_goals (clear hV hcr hcx hcc hfi hfr)
                all_goals
                  go_wp2_with (go_at_call 61; refine (shorten_any _ l2 h2 aR n cR (row P i) hn7 HOR.out ((HFT.out i hil).up (by decide))).mono ?_; rintro e w2 ⟨rfl, ho2, hm2⟩; have HK2 := Lib.hid (HKR.out w2 _ ho2 hm2); clear ho2 hm2)
                all_goals
                  obtain ⟨S, hS⟩ : ∃ S, S = pswap P r i := ⟨_, rfl⟩
                  rw [HSP.out, ← hS] at HK2
                  rw [← hS] at HSL HSW2 HSF HST2
                  clear hS HSP hcR HOR HKR HV
                  go_loopw [73, 8, 9] (fun ix _ _ wr => ∃ u : Nat, u ≤ len ∧ ix = .int .i64 u ∧ OwnM wr lo hi (some ⟨g, 0, none⟩) len cap (clrBy (fun z => clearL z (row S r) k) S r u) ∧ Moved lo hi W wr) (fun ix _ _ _ => len - (intOf ix).toNat)
                  case atStart => exact ⟨0, Nat.zero_le _, rfl, by rw [clrBy_zero]; exact HK2.out.1, HVM.out.trans HK2.out.2⟩
                  case round =>
                    obtain ⟨u, hu, rfl, ho, hb⟩ := hrel
                    have HO3 := Lib.hid ho
                    have HB3 := Lib.hid hb
                    have hlo3 : lo ≤ wr.heap.size := Nat.le_trans hlo hb.size
                    by_cases hul : u < len
                    · by_cases huR : u = r
                      · have hsu := ho.sees.2 u hul
                        obtain ⟨b5, off5, au, cu, ha5, _, hcu, _, _, _⟩ := hsu
                        cases ha5
                        rw [Nat.zero_add] at hcu
                        rw [clrBy_ahead (by rw [HSL.out]; exact hul) (Nat.le_refl _), HSW2.out u hul] at hcu
                        clear ho hb
                        subst huR
                        go_wp2
                        go_roundw
                        case rel => exact ⟨u + 1, by omega, by go_num, by rw [← clrBy_same (by rw [HSL.out]; exact hul) (.inl rfl)]; exact HO3.out, HB3.out⟩
                        case measure => simp [intOf]; omega
                      · have hin := ho.inner2 u hul r (by omega) (fun e => huR e.symm) hlo3
                        rw [clrBy_pivot (by rw [HSL.out]; omega), clrBy_ahead (by rw [HSL.out]; exact hul) (Nat.le_refl _), HSW2.out u hul, HSW2.out r (by omega)] at hin
                        obtain ⟨g', au, cu, l3, h3, aR3, cR3, ⟨hcR3, hsR3, hnR3⟩, hg', hcu, hou, hku⟩ := hin
                        cases hg'
                        have HSET := Lib.hid (clrBy_set (f := fun z => clearL z (row S r) k) (R := S) (r := r) (u := u) (by rw [HSL.out]; exact hul) huR)
                        have HSR3 := Lib.hid hsR3
                        have HNR3 := Lib.hid hnR3
                        have HOU := Lib.hid hou
                        have HKU := Lib.hid hku
                        have huRb : ((u : Int) != (r : Int)) = true := by simp; omega
                        clear ho hb hsR3 hnR3 hou hku
                        go_wp2_with (go_at_call 46; refine (clearCol_any _ l3 h3 au n cu aR3 cR3 (row S u) (row S r) k hn7 hkn HOU.out HSR3.out HNR3.out ((HSF.out u hul).up (by decide)) ((HSF.out r (by omega)).up (by decide)) ((HSF.out u hul).up (by decide) k) ((HSF.out r (by omega)).up (by decide) k)).mono ?_; rintro e w5 ⟨rfl, ho5, hm5⟩; have HK5 := Lib.hid (HKU.out w5 _ ho5 hm5); clear ho5 hm5)
                        go_roundw
                        case rel => exact ⟨u + 1, by omega, by go_num, by have h := HK5.out.1; rw [HSET.out] at h; exact h, HB3.out.trans HK5.out.2⟩
                        case measure => simp [intOf]; omega
                    · obtain rfl : u = len := by omega
                      clear ho hb
                      go_wp2_with (go_at_call 36; refine (HIH.out (k + 1) (r + 1) _ _ lo hi (some ⟨g, 0, none⟩) u cap (by omega) HST2.out HO3.out hl1 hlo3).mono ?_; rintro e w6 ⟨r6, rfl, ho6, hm6⟩; have HO6 := Lib.hid ho6; have HM6 := Lib.hid hm6; clear ho6 hm6)
                      go_ret
                      exact ⟨_, rfl, HO6.out, HB3.out.trans HM6.out⟩
end Go.Proofs.Ytbclnklejleobaa
