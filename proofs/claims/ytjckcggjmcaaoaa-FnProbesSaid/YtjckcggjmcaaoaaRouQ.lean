/- The program's search in breadth. -/
import Derived.Test.YtjckcggjmcaaoaaRouP
namespace Go.Proofs.Ytjckcggjmcaaoaa
open Go.RowKit
theorem cat_two (Z : Nat → List Int) : cat Z 2 = Z 0 ++ Z 1 := by simp [cat]
theorem drop_map {M : List (Int × List Int)} {j : Nat} {x : Int × List Int} (h : M[j]? = some x) : (M.drop j).map (·.1) = x.1 :: (M.drop (j + 1)).map (·.1) := by
  obtain ⟨hj, rfl⟩ := List.getElem?_eq_some_iff.1 h
  rw [List.drop_eq_getElem_cons hj, List.map_cons]
theorem drop_more {M : List (Int × List Int)} {j : Nat} (hj : j < M.length) (x : Int × List Int) : ((M ++ [x]).drop (j + 1)).map (·.1) = (M.drop (j + 1)).map (·.1) ++ [x.1] := by
  rw [List.drop_append_of_le_length (by omega), List.map_append]
  rfl
theorem RingAt.lt {w : World} {r : Nat} {Q : List Int} (h : RingAt w r Q) : r < w.heap.size := by
  obtain ⟨ps, f, h⟩ := h
  exact h.lt
theorem route_at {w : World} {lo0 lo b r : Nat} {a : Option Addr} {l c : Nat} {z : List Int} (h : Own .i64 3 w lo0 w.heap.size a l c z) (hr : r < lo0) (hb : lo ≤ lo0 ∧ b < lo0) : RouteAt w lo b r (.slice a l c) z :=
  ⟨a, l, c, rfl, h.wide hb.1 (Nat.le_refl _) (Nat.le_refl _), fun x hx => by have := h.2.2.2.2 x hx; omega⟩
def two {α : Type} (x y : α) (j : Nat) : α := if j = 0 then x else y
theorem parts_two (w : World) (ra : Option Addr) (rl rc : Nat) (z : List Int) (k : Int) (hz : Sees .i64 w ra rl z) (hk : (Lit.int .i64 k).wf = true) :
    Parts ((w.alloc (.cells #[.int .i64 k] 3)).alloc (.cells #[.slice ra rl rc, .slice (some ⟨w.heap.size, 0, none⟩) 1 1] 27)) (w.heap.size + 1) 2 (two ra (some ⟨w.heap.size, 0, none⟩)) (two rl 1) (two rc 1) (two z [k]) := by
  refine ⟨by simp, fun j hj => ?_, fun j hj => ?_⟩
  · have : j = 0 ∨ j = 1 := by omega
    rcases this with rfl | rfl <;> simp [two]
  · have : j = 0 ∨ j = 1 := by omega
    rcases this with rfl | rfl
    · exact (hz.alloc _).alloc _
    · exact (sees_one hk w _).alloc _
set_option maxRecDepth 20000 in
set_option maxHeartbeats 12800000 in
theorem routes_any (W : World) (n : Nat) (a : Option Addr) (len cap : Nat) (ls : List (Int × Int)) (x0 : Nat) (hn8 : n ≤ 8) (hx : x0 < n) (hl : len ≤ 6) (he : Ends n ls) (hs : SeesL W a len ls) :
    Calls Try.prog 54 #[.agg #[.int .i64 (n : Int), .slice a len cap], .int .i64 (x0 : Int)] W fun e w' => ∃ (M : List (Int × List Int)) (F : Int → Option Value) (r : Nat), e = .returned (.map (some (W.heap.size + 1))) ∧ Met n ls (x0 : Int) M M.length 0 ∧ St W w' (n : Int) a len cap M [] F r := by
  have HL := Lib.hid hs.1
  have HSW := Lib.hid hs
  have HEN := Lib.hid he
  clear hs he
  have hx8 : (Lit.int .i64 (x0 : Int)).wf = true := WalkArith.wf_i64 (by omega)
  have hmm := @run_makeMap Try.prog
  have hM0 := mapI_made (W.alloc (.cells #[.int .i64 (n : Int), .slice a len cap] 26))
  have HM0 : Hid (MapI (((W.alloc (.cells #[.int .i64 (n : Int), .slice a len cap] 26)).alloc (.map #[] 0)).alloc (.cells #[] 3)) (W.heap.size + 1) 0 (fun _ => none)) := Lib.hid (by have h := hM0.alloc (.cells #[] 3); simpa using h)
  clear hM0
  go_enter Try.func54, Try.ntmps54
  go_wp2_with (refine wp_mapPut (val := .slice (some ⟨W.heap.size + 1 + 1, 0, none⟩) 0 0) rfl _ _ _ (.inr rfl) HM0.out Try.underlying3 Try.underlying83 rfl rfl hx8 rfl rfl ?_; intro w1 hM1 hG1; have HM1 := Lib.hid hM1; have HG1 := Lib.hid hG1; clear hM1 hG1)
  obtain ⟨r, hr⟩ : ∃ r, r = w1.heap.size := ⟨_, rfl⟩
  have hrge : W.heap.size + 3 ≤ r := by have h := HG1.out.size; simp at h; omega
  have HS0 : Hid (St W (w1.alloc (.cells #[.int .i64 0, .int .i64 0, .int .i64 0, .int .i64 0, .int .i64 0, .int .i64 0, .int .i64 0, .int .i64 0, .int .i64 0, .int .i64 0] 104)) (n : Int) a len cap [((x0 : Int), [])] [] (fun y => if y = (x0 : Int) then some (.slice (some ⟨W.heap.size + 1 + 1, 0, none⟩) 0 0) else none) r) := Lib.hid (by
    have hmv := moved_grown HG1.out
    have hn := (((net_new W (n : Int) a len cap 26).below (below_new _ (.map #[] 0))).below (below_new _ (.cells #[] 3))).off hmv (by omega)
    have hb := (((below_new W (.cells #[.int .i64 (n : Int), .slice a len cap] 26)).alloc (by simp) (.map #[] 0)).alloc (by simp; omega) (.cells #[] 3))
    have ho := own_nil .i64 3 ((W.alloc (.cells #[.int .i64 (n : Int), .slice a len cap] 26)).alloc (.map #[] 0))
    have hz2 : ((W.alloc (.cells #[.int .i64 (n : Int), .slice a len cap] 26)).alloc (.map #[] 0)).heap.size = W.heap.size + 1 + 1 := by simp
    rw [hz2] at ho
    have ho1 := ho.off hmv (fun x hx => by cases hx; simp)
    have hnew := below_new w1 (.cells #[.int .i64 0, .int .i64 0, .int .i64 0, .int .i64 0, .int .i64 0, .int .i64 0, .int .i64 0, .int .i64 0, .int .i64 0, .int .i64 0] 104)
    refine ⟨hrge, hn.below hnew, HM1.out.below hnew, fun x hx => ?_, fun x hx => ?_, by rw [hr]; exact ring_new _ _, below_up (below_moved hb hmv (Nat.le_refl _) (by omega)) hnew (Nat.le_refl _)⟩
    · obtain rfl := List.mem_singleton.1 hx
      exact ⟨_, by simp, _, _, _, rfl, (ho1.below hnew).wide (by omega) (by simp; omega) (Nat.le_refl _), fun x hx => by cases hx; simp; omega⟩
    · have : ¬ x = (x0 : Int) := fun e => hx _ (List.mem_singleton.2 rfl) e.symm
      simp [this])
  rw [← hr]
  obtain ⟨w3, hw3⟩ : ∃ w3, w3 = w1.alloc (.cells #[.int .i64 0, .int .i64 0, .int .i64 0, .int .i64 0, .int .i64 0, .int .i64 0, .int .i64 0, .int .i64 0, .int .i64 0, .int .i64 0] 104) := ⟨_, rfl⟩
  rw [← hw3] at HS0
  rw [← hw3]
  clear hw3 hr HM0 HM1 HG1
  refine (add_any w3 r [] (x0 : Int) HS0.out.ring (by simp)).mono ?_
  rintro e w4 ⟨rfl, hr4, hm4⟩
  have HS4 := Lib.hid (HS0.out.queue hm4 hr4)
  clear hr4 hm4 HS0
  go_wp2
  go_loopw [7] (fun _ wr => ∃ (M : List (Int × List Int)) (j : Nat) (F : Int → Option Value), j ≤ M.length ∧ Hid (Met n ls (x0 : Int) M j 0) ∧ Hid (St W wr (n : Int) a len cap M ((M.drop j).map (·.1)) F r)) (fun _ wr => 8 + ringCount wr r - mapSize wr (W.heap.size + 1))
  case atStart => exact ⟨[((x0 : Int), [])], 0, _, by simp, Lib.hid (met_start ⟨by omega, by omega⟩), Lib.hid HS4.out⟩
  case round =>
    obtain ⟨M, j, F, hj, HM, HS⟩ := hrel
    obtain ⟨Vr, rfl⟩ : ∃ V, V = wr := ⟨_, rfl⟩
    have HMC := Lib.hid HM.out.count
    obtain ⟨q, hq⟩ : ∃ q, (M.drop j).length = q := ⟨_, rfl⟩
    have hqj : q = M.length - j := by rw [← hq, List.length_drop]
    have hc9 := HS.out.ring.count.2.1
    rw [List.length_map, hq] at hc9
    have HMEAS : Hid (8 + ringCount Vr r - mapSize Vr (W.heap.size + 1) = 8 - j) := Lib.hid (by
      have h1 := HMC.out
      rw [HS.out.ring.count.1, HS.out.map.size, List.length_map, hq, hqj]
      omega)
    by_cases hlt : j < M.length
    · obtain ⟨x, hxj⟩ : ∃ x, M[j]? = some x := ⟨_, List.getElem?_eq_getElem hlt⟩
      obtain ⟨nv, rt⟩ := x
      have hdm := drop_map hxj
      have hq0 : 0 < q := by omega
      have hq0i : (0 : Int) < (q : Int) := by omega
      have HXJ := Lib.hid hxj
      have hrange := HM.out.range _ (List.mem_of_getElem? hxj)
      have HNW : Hid ((Lit.int .i64 nv).wf = true) := Lib.hid (WalkArith.wf_i64 (by omega))
      have hrl := HM.out.short j _ hxj
      have hj8 : j < 8 := by have := HMC.out; omega
      rw [hdm] at HS
      clear hxj hq hqj hdm
      go_wp2_with (go_at_call 70; refine (take_any _ r _ nv HS.out.ring).mono ?_; rintro e w2 ⟨rfl, hr2, hm2⟩; have HS2 := Lib.hid (HS.out.queue hm2 hr2); have c1 := HS2.out.net.c1; clear hr2 hm2)
      go_loopw [28] (fun i wr => ∃ (k : Nat) (M : List (Int × List Int)) (F : Int → Option Value), k ≤ len ∧ i = .int .i64 k ∧ Hid (M[j]? = some (nv, rt)) ∧ Hid (Met n ls (x0 : Int) M j k) ∧ Hid (St W wr (n : Int) a len cap M ((M.drop (j + 1)).map (·.1)) F r)) (fun i _ => len - (intOf i).toNat)
      case atStart => exact ⟨0, M, F, Nat.zero_le _, rfl, Lib.hid HXJ.out, Lib.hid HM.out, Lib.hid HS2.out⟩
      case round =>
        clear hc9 hlt hj c1 HS HS2 HM HXJ HMC
        obtain ⟨k, M, F, hk, rfl, HXJ, HM, HS⟩ := hrel
        by_cases hlt2 : k < len
        · obtain ⟨b2, o2, rfl, hb2, hx0, hx1, hi0, hi1⟩ := (HSW.out.below HS.out.bel).spot hlt2
          have hkl : k < ls.length := by rw [HL.out]; exact hlt2
          obtain ⟨s, t, hst⟩ : ∃ s t, ls.getD k (0, 0) = (s, t) := ⟨_, _, rfl⟩
          rw [hst] at hx0 hx1
          obtain ⟨ro, hro⟩ : ∃ ro, other (s, t) nv = ro := ⟨_, rfl⟩
          have HRO := Lib.hid hro
          have HSTEP : Hid (stepN ls (k : Int) nv = ro) := Lib.hid (by rw [step_in hkl, hst]; exact hro)
          have HSU := Lib.hid (HS.out.below (below_new wr (.cells #[.int .i64 s, .int .i64 t] 72)))
          have hk6 : k ≤ 6 := by omega
          have HKW : Hid ((Lit.int .i64 (k : Int)).wf = true) := Lib.hid (WalkArith.wf_i64 (by omega))
          clear hst hro hi0 hi1
          cases ro with
          | none =>
            have HMN : Hid (Met n ls (x0 : Int) M j (k + 1)) := Lib.hid (HM.out.skip HXJ.out (fun w hw => by rw [show stepN ls (k : Int) nv = none from HSTEP.out] at hw; cases hw))
            obtain ⟨f0, hf0⟩ : ∃ f0, F 0 = f0 := ⟨_, rfl⟩
            have HFW := Lib.hid hf0
            clear hf0
            cases f0 with
            | none =>
              go_wp2_with (go_at_call 55; refine (otherEnd_any s t nv _ none HRO.out).mono ?_; simp only [Option.getD_none, Option.isSome_none]; rintro e w2 ⟨rfl, hb2⟩; have HS2 := Lib.hid (HSU.out.below hb2); have hlk := HS2.out.map.look Try.underlying3 Try.underlying83 (zero_row w2) (x := 0) (by decide) true; rw [HFW.out] at hlk; simp only [if_true] at hlk; clear hb2)
              go_roundw
              case rel => exact ⟨k + 1, M, F, by omega, by go_num, Lib.hid HXJ.out, Lib.hid HMN.out, Lib.hid HS2.out⟩
              case measure => simp [intOf]; omega
            | some v0 =>
              go_wp2_with (go_at_call 55; refine (otherEnd_any s t nv _ none HRO.out).mono ?_; simp only [Option.getD_none, Option.isSome_none]; rintro e w2 ⟨rfl, hb2⟩; have HS2 := Lib.hid (HSU.out.below hb2); have hlk := HS2.out.map.look Try.underlying3 Try.underlying83 (zero_row w2) (x := 0) (by decide) true; rw [HFW.out] at hlk; simp only [if_true] at hlk; clear hb2)
              go_roundw
              case rel => exact ⟨k + 1, M, F, by omega, by go_num, Lib.hid HXJ.out, Lib.hid HMN.out, Lib.hid HS2.out⟩
              case measure => simp [intOf]; omega
          | some w =>
            have hwe := step_ends HEN.out HSTEP.out
            have HWW : Hid ((Lit.int .i64 w).wf = true) := Lib.hid (WalkArith.wf_i64 (by omega))
            obtain ⟨f0, hf0⟩ : ∃ f0, F w = f0 := ⟨_, rfl⟩
            have HFW := Lib.hid hf0
            clear hf0 hwe
            cases f0 with
            | some v0 =>
              have HMN : Hid (Met n ls (x0 : Int) M j (k + 1)) := Lib.hid (HM.out.skip HXJ.out (fun u hu => by
                rw [show stepN ls (k : Int) nv = some w from HSTEP.out] at hu
                cases hu
                refine Classical.byContradiction fun hno => ?_
                have h := HS.out.no w (fun m hm e => hno ⟨m, hm, e⟩)
                rw [HFW.out] at h
                cases h))
              go_wp2_with (go_at_call 55; refine (otherEnd_any s t nv _ (some w) HRO.out).mono ?_; simp only [Option.getD_some, Option.isSome_some]; rintro e w2 ⟨rfl, hb2⟩; have HS2 := Lib.hid (HSU.out.below hb2); have hlk := HS2.out.map.look Try.underlying3 Try.underlying83 (zero_row w2) (x := w) HWW.out true; rw [HFW.out] at hlk; simp only [if_true] at hlk; clear hb2)
              go_roundw
              case rel => exact ⟨k + 1, M, F, by omega, by go_num, Lib.hid HXJ.out, Lib.hid HMN.out, Lib.hid HS2.out⟩
              case measure => simp [intOf]; omega
            | none =>
              have HNM : Hid (∀ m ∈ M, m.1 ≠ w) := Lib.hid (fun m hm e => by
                obtain ⟨v, hv, _⟩ := HS.out.has m hm
                rw [e, HFW.out] at hv
                cases hv)
              have HMN : Hid (Met n ls (x0 : Int) (M ++ [(w, rt ++ [(k : Int)])]) j (k + 1)) := Lib.hid (HM.out.add HEN.out HXJ.out HSTEP.out HNM.out)
              have hjM := (List.getElem?_eq_some_iff.1 HXJ.out).1
              have HXN : Hid ((M ++ [(w, rt ++ [(k : Int)])])[j]? = some (nv, rt)) := Lib.hid (by rw [List.getElem?_append_left hjM]; exact HXJ.out)
              have HQ8 : Hid (((M.drop (j + 1)).map (·.1)).length < 8) := Lib.hid (by have h := HM.out.count; simp; omega)
              have HQN := Lib.hid (drop_more hjM (w, rt ++ [(k : Int)]))
              obtain ⟨rv, hrv, ra, rl, rc, rfl, hown, hnb⟩ := HS.out.has _ (List.mem_of_getElem? HXJ.out)
              have HFN : Hid (F nv = some (.slice ra rl rc)) := Lib.hid hrv
              have hrl2 : rl ≤ 8 := by have h := hown.1; simp only at h hrl; omega
              have HTC : Hid (totC (two rl 1) 2 ≤ 1073741840) := Lib.hid (by simp [totC, two]; omega)
              have HRS : Hid (∀ w2, St W w2 (n : Int) (some ⟨b2, o2, none⟩) len cap M ((M.drop (j + 1)).map (·.1)) F r → Sees .i64 w2 ra rl rt) := Lib.hid (fun w2 h2 => by
                obtain ⟨v2, e2, a2, l2, c2, e3, ho2, _⟩ := h2.has _ (List.mem_of_getElem? HXJ.out)
                rw [hrv, Option.some.injEq] at e2
                rw [← e2] at e3
                cases e3
                exact ho2.sees)
              clear hown hnb hrv
              go_wp2_with (first
                | (go_at_call 55; refine (otherEnd_any s t nv _ (some w) HRO.out).mono ?_; simp only [Option.getD_some, Option.isSome_some]; rintro e w2 ⟨rfl, hb2⟩; have HS2 := Lib.hid (HSU.out.below hb2); have hlk := HS2.out.map.look Try.underlying3 Try.underlying83 (zero_row w2) (x := w) HWW.out true; rw [HFW.out] at hlk; simp only [if_true] at hlk; have hlk2 := HS2.out.map.look Try.underlying3 Try.underlying83 (zero_row w2) (x := nv) HNW.out false; rw [HFN.out] at hlk2; simp only [Bool.false_eq_true, if_false] at hlk2; clear hb2)
                | (go_at_call 71; refine (concat_any _ (w2.heap.size + 1) 2 _ _ _ _ (by omega) HTC.out (parts_two w2 ra rl rc rt (k : Int) (HRS.out w2 HS2.out) HKW.out)).mono ?_; rw [cat_two]; simp only [two, if_true, Nat.one_ne_zero, if_false]; rintro e w3 ⟨b3, l3, c3, rfl, ho3, hb3⟩; have hbb := (((below_new w2 (.cells #[.int .i64 (k : Int)] 3)).alloc (by simp) (.cells #[.slice ra rl rc, .slice (some ⟨w2.heap.size, 0, none⟩) 1 1] 27))); have hsz2 := HS2.out.ring.lt; have HS3 := Lib.hid (HS2.out.below (below_up hbb hb3 (Nat.le_refl _))); have HO3 := Lib.hid ho3; clear ho3 hb3 hbb)
                | (at_mapUpdate; refine wp_mapPut (val := .slice b3 l3 c3) rfl _ _ _ (.inl rfl) HS3.out.map Try.underlying3 Try.underlying83 rfl rfl HWW.out HFW.out rfl ?_; intro w5 hM5 hG5; have HS5 := Lib.hid (HS3.out.tell hG5 hM5 HNM.out (route_at HO3.out (by simp; omega) (by have h := HS2.out.rge; simp; omega))); clear hM5 hG5)
                | (go_at_call 69; refine (add_any _ r _ w HS5.out.ring HQ8.out).mono ?_; rintro e w6 ⟨rfl, hr6, hm6⟩; have HS6 := Lib.hid (HS5.out.queue hm6 hr6); clear hr6 hm6))
              go_roundw
              case rel => exact ⟨k + 1, _, _, by omega, by go_num, Lib.hid HXN.out, Lib.hid HMN.out, Lib.hid (by rw [HQN.out]; exact HS6.out)⟩
              case measure => simp [intOf]; omega
        · obtain rfl : k = len := by omega
          have HMO : Hid (Met n ls (x0 : Int) M (j + 1) 0) := Lib.hid (Met.over (by rw [HL.out]; exact HM.out))
          have hjM := (List.getElem?_eq_some_iff.1 HXJ.out).1
          go_wp2
          go_roundw
          case rel => exact ⟨M, j + 1, F, hjM, Lib.hid HMO.out, Lib.hid HS.out⟩
          case measure =>
            have h1 := HMO.out.count
            rw [HMEAS.out, HS.out.ring.count.1, HS.out.map.size]
            simp
            omega
    · obtain rfl : j = M.length := by omega
      have hq0 : q = 0 := by omega
      subst hq0
      have hn : M.drop M.length = [] := List.drop_eq_nil_of_le (Nat.le_refl _)
      rw [hn] at HS
      clear hn hqj hq hlt hj HMEAS
      go_wp2
      go_ret
      exact ⟨M, F, r, rfl, HM.out, HS.out⟩
end Go.Proofs.Ytjckcggjmcaaoaa
