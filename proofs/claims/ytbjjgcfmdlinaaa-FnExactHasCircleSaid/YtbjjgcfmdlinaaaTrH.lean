/- HasCircle, the model's. -/
import Derived.Test.YtbjjgcfmdlinaaaTrC
import Derived.Test.YtbjjgcfmdlinaaaSlL
import Derived.Test.YtbjjgcfmdlinaaaHas
import Derived.Test.YtbjjgcfmdlinaaaTake
import Derived.Test.YtbjjgcfmdlinaaaConcat
namespace Go.Proofs.Ytbjjgcfmdlinaaa
open Go.RowKit
theorem getC_mem {ms : List (Int × Int)} {j : Nat} {p q : Int} (hj : ms.getD j (0, 0) = (p, q)) (hl : j < ms.length) : (p, q) ∈ ms := by
  rw [← hj]; simp [List.getD, hl]
theorem nearC_mem {near : List Int} {k : Nat} {y : Int} (hy : near.getD k 0 = y) (hk : k < near.length) : y ∈ near := by rw [← hy]; simp [List.getD, hk]
theorem nearC_skip {ms : List (Int × Int)} {a p q y : Int} {near : List Int} {k j : Nat} (h : NearC ms a near k j) (hj : ms.getD j (0, 0) = (p, q)) (hy : near.getD k 0 = y) (h1 : p = y → q ∈ near) (h2 : q = y → p ∈ near) : NearC ms a near k (j + 1) :=
  nearC_next h (by rw [hj, hy]; exact h1) (by rw [hj, hy]; exact h2)
theorem nearC_ahead {ms : List (Int × Int)} {a p q y : Int} {near : List Int} {k j : Nat} (h : NearC ms a near k j) (hj : ms.getD j (0, 0) = (p, q)) (hl : j < ms.length) (hy : near.getD k 0 = y) (hk : k < near.length) (hp : p = y) (hq : ¬ q ∈ near) : NearC ms a (near ++ [q]) k (j + 1) := by
  have hm := nearC_mem hy hk
  have hr : Reach ms a q := .ahead (h.reach y hm) (by rw [← hp]; exact getC_mem hj hl)
  refine nearC_next (nearC_add h hk hq hr) (by rw [hj]; intro _; exact List.mem_append_right _ (List.mem_cons_self ..)) (by rw [hj, getD_leftI hk, hy]; intro e; exact absurd (by rw [show q = y from e]; exact hm) hq)
theorem nearC_back {ms : List (Int × Int)} {a p q y : Int} {near : List Int} {k j : Nat} (h : NearC ms a near k j) (hj : ms.getD j (0, 0) = (p, q)) (hl : j < ms.length) (hy : near.getD k 0 = y) (hk : k < near.length) (hq : q = y) (hp : ¬ p ∈ near) : NearC ms a (near ++ [p]) k (j + 1) := by
  have hm := nearC_mem hy hk
  have hr : Reach ms a p := .back (h.reach y hm) (by rw [← hq]; exact getC_mem hj hl)
  refine nearC_next (nearC_add h hk hp hr) (by rw [hj, getD_leftI hk, hy]; intro e; exact absurd (by rw [show p = y from e]; exact hm) hp) (by rw [hj]; intro _; exact List.mem_append_right _ (List.mem_cons_self ..))
theorem own_cellC {w : World} {e : TypeId} {lo hi g len cap : Nat} {zs : List Int} (h : Own .i64 e w lo hi (some ⟨g, 0, none⟩) len cap zs) {j : Nat} (hj : j < len) : w.cell? ⟨g, j, none⟩ = some (.int .i64 (zs.getD j 0)) := by
  rcases h.spot with ⟨h0, _⟩ | ⟨g', hg, _, _, _, _, hc, _⟩
  · cases h0
  · cases hg; exact hc j hj
theorem own_someC {w : World} {e : TypeId} {lo hi len cap : Nat} {a : Option Addr} {zs : List Int} {x : Int} (h : Own .i64 e w lo hi a len cap (zs ++ [x])) : ∃ g, a = some ⟨g, 0, none⟩ := by
  rcases h.spot with ⟨_, _, _, h0⟩ | ⟨g', hg, _⟩
  · simp at h0
  · exact ⟨g', hg⟩
theorem next_allC {P : Nat → Prop} {k : Nat} (h : ∀ j, j < k → P j) (h1 : P k) : ∀ j, j < k + 1 → P j := fun j hj => by
  rcases Nat.lt_or_eq_of_le (Nat.lt_succ_iff.1 hj) with h2 | h2
  · exact h j h2
  · rw [h2]; exact h1
theorem ret_boolC {a b : Bool} (h : a = b) : (Ending.returned (.bool a)) = .returned (.bool b) := by rw [h]
set_option maxRecDepth 20000 in
set_option maxHeartbeats 12800000 in
theorem specCirc_any (W : World) (a : Option Addr) (len cap : Nat) (ls : List (Int × Int)) (hl : len ≤ 268435456) (hs : SeesL W a len ls) :
    Calls Try.prog 33 #[.slice a len cap] W fun e w' => e = .returned (.bool (circV ls)) ∧ Below W.heap.size W w' := by
  have HS := Lib.hid hs
  have HL := Lib.hid hs.1
  obtain ⟨v, hv⟩ : ∃ v, v = circV ls := ⟨_, rfl⟩
  rw [← hv]
  have HV := Lib.hid hv
  clear hs hv
  obtain ⟨i0, hi, hz0, hz1, hz2⟩ := info_parts info_i64
  go_enter Try.func33, Try.ntmps33
  go_wp2
  go_loopw [3, 4, 5, 6] (fun s _ _ _ wr => ∃ i : Nat, i ≤ len ∧ s = .int .i64 i ∧ Hid (∀ r, r < i → ¬ closesAt ls r) ∧ Below W.heap.size W wr) (fun s _ _ _ _ => len - (intOf s).toNat)
  case atStart => exact ⟨0, Nat.zero_le _, rfl, Lib.hid (fun j hj => absurd hj (Nat.not_lt_zero _)), Below.refl _ _⟩
  case round =>
    obtain ⟨i, hile, rfl, HR, hb⟩ := hrel
    obtain ⟨V, rfl⟩ : ∃ V, V = wr := ⟨_, rfl⟩
    have HB := Lib.hid hb
    by_cases hlt : i < len
    · rcases HS.out.2.2 with h0 | ⟨b, o, rfl, hb0, hc⟩
      · omega
      have HC := Lib.hid hc
      obtain ⟨x, t, hx⟩ : ∃ x t, ls.getD i (0, 0) = (x, t) := ⟨_, _, rfl⟩
      have c0 := (hb.cell (p := ⟨b, o + i * 2, none⟩) hb0).trans (hc i hlt).1
      have T1 := Lib.hid (hc i hlt).2
      have HWF : Hid (∀ j, j < len → (Lit.int .i64 (ls.getD j (0, 0)).1).wf = true ∧ (Lit.int .i64 (ls.getD j (0, 0)).2).wf = true) := Lib.hid (fun j hj => HS.out.2.1 _ (getL_mem (l := ls) (j := j) (by rw [HL.out]; exact hj)))
      have HXW := Lib.hid (HWF.out i hlt).1
      rw [hx] at c0 T1 HXW
      obtain ⟨ms, hms⟩ : ∃ ms, ms = ls.take i := ⟨_, rfl⟩
      have HML : Hid (ms.length = i) := Lib.hid (by rw [hms, List.length_take, HL.out]; omega)
      have HMJ : Hid (∀ j, j < i → ms.getD j (0, 0) = ls.getD j (0, 0)) := Lib.hid (fun j hj => by rw [hms]; simp [List.getD, hj])
      have HCL : Hid (closesAt ls i ↔ Reach ms x t) := Lib.hid (by unfold closesAt; rw [hx, hms])
      have k0 : (0 : Int) ≤ (i : Int) := by omega
      have k1 : (i : Int) < (len : Int) := by omega
      have hWV := hb.size
      clear hb hc hx hms
      go_wp2_with fail
      clear c0
      go_loopw [4, 5, 6] (fun v s _ wr => ∃ (k g l c : Nat) (near : List Int), k ≤ l ∧ v = .slice (some ⟨g, 0, none⟩) l c ∧ s = .int .i64 k ∧ Own .i64 3 wr W.heap.size wr.heap.size (some ⟨g, 0, none⟩) l c near ∧ Hid (NearC ms x near k 0) ∧ Below W.heap.size W wr) (fun _ s _ _ => 2 * len + 2 - (intOf s).toNat)
      case atStart => exact ⟨0, _, _, _, [x], by omega, rfl, rfl, (own_one HXW.out 3 V).wide hWV (by simp) (Nat.le_refl _), Lib.hid (nearC_zero _ _), HB.out.alloc (by simpa using hWV) _⟩
      case round =>
        clear HB hWV
        obtain ⟨k, g, l, c, near, hk, rfl, rfl, ho, HNR, hb⟩ := hrel
        obtain ⟨U, rfl⟩ : ∃ U, U = wr := ⟨_, rfl⟩
        have hnl : near.length = l := ho.1
        have hn2 : l ≤ 2 * i + 1 := by have := nearC_len HNR.out; rw [HML.out, hnl] at this; exact this
        have HO := Lib.hid ho
        have HB := Lib.hid hb
        have HNL := Lib.hid hnl
        by_cases hkl : k < l
        · clear ho hb hnl
          go_wp2_with fail
          go_loopw [4, 6] (fun v s wr => ∃ (j g l c : Nat) (near : List Int), j ≤ i ∧ k < l ∧ v = .slice (some ⟨g, 0, none⟩) l c ∧ s = .int .i64 j ∧ Own .i64 3 wr W.heap.size wr.heap.size (some ⟨g, 0, none⟩) l c near ∧ Hid (NearC ms x near k j) ∧ Below W.heap.size W wr) (fun _ s _ => i - (intOf s).toNat)
          case atStart => exact ⟨0, _, _, _, near, by omega, hkl, rfl, rfl, HO.out, HNR, HB.out⟩
          case round =>
            clear HO HB HNL HNR hn2 hkl hk
            obtain ⟨j, g, l, c, near, hj, hkl, rfl, rfl, ho, HNR, hb⟩ := hrel
            obtain ⟨U, rfl⟩ : ∃ U, U = wr := ⟨_, rfl⟩
            have hnl : near.length = l := ho.1
            have hn2 : l ≤ 2 * i + 1 := by have := nearC_len HNR.out; rw [HML.out, hnl] at this; exact this
            have HO := Lib.hid ho
            have HB := Lib.hid hb
            have HNL := Lib.hid hnl
            have hWU := hb.size
            by_cases hji : j < i
            · obtain ⟨p, q, hpq⟩ : ∃ p q, ms.getD j (0, 0) = (p, q) := ⟨_, _, rfl⟩
              obtain ⟨y, hy⟩ : ∃ y, near.getD k 0 = y := ⟨_, rfl⟩
              have hjl : j < len := by omega
              have e0 := (hb.cell (p := ⟨b, o + j * 2, none⟩) hb0).trans (HC.out j hjl).1
              have e1 := (hb.cell (p := ⟨b, o + j * 2 + 1, none⟩) hb0).trans (HC.out j hjl).2
              have e2 := own_cellC ho hkl
              have HPW := Lib.hid (HWF.out j hjl).1
              have HQW := Lib.hid (HWF.out j hjl).2
              rw [← HMJ.out j hji, hpq] at e0 e1 HPW HQW
              rw [hy] at e2
              have HPQ := Lib.hid hpq
              have HY := Lib.hid hy
              have HJM : Hid (j < ms.length) := Lib.hid (by rw [HML.out]; exact hji)
              have HKN : Hid (k < near.length) := Lib.hid (by rw [hnl]; exact hkl)
              have HSS := Lib.hid (show (U.cell? ⟨b, o + j * 2, none⟩ = some (.int .i64 p) ∧ U.cell? ⟨b, o + j * 2 + 1, none⟩ = some (.int .i64 q)) ∧ U.cell? ⟨g, k, none⟩ = some (.int .i64 y) from ⟨⟨e0, e1⟩, e2⟩)
              have HOD := Lib.hid (HO.out.below (Below.refl U.heap.size U).drew)
              have HBD := Lib.hid (show Below W.heap.size W U.drew from hb.drew)
              have j0 : (0 : Int) ≤ (j : Int) := by omega
              have j1 : (j : Int) < (len : Int) := by omega
              have n0 : (0 : Int) ≤ (k : Int) := by omega
              have n1 : (k : Int) < (l : Int) := by omega
              clear ho hb hnl hpq hy e0 e1 e2
              by_cases h1 : y = p
              · subst h1
                cases hq : hasB near q
                · have HQ := Lib.hid hq
                  have HNX := Lib.hid (nearC_ahead HNR.out HPQ.out HJM.out HY.out HKN.out rfl (of_decide_eq_false hq))
                  have hqy : ¬ q = y := fun e => of_decide_eq_false hq (by rw [e]; exact nearC_mem HY.out HKN.out)
                  have hqb : (q == y) = false := by rw [beq_eq_false_iff_ne]; exact hqy
                  clear hq
                  go_wp2_with fail
                  refine wp_region_noPanic ?_
                  refine wp_region_held_drew (S := (fun w' => (w'.cell? ⟨b, o + j * 2, none⟩ = some (.int .i64 y) ∧ w'.cell? ⟨b, o + j * 2 + 1, none⟩ = some (.int .i64 q)) ∧ w'.cell? ⟨g, k, none⟩ = some (.int .i64 y))) (by kernel_rfl) ?_ (fun hHeld => ?_)
                  · exact HSS.out
                  refine take_val 0 (some 30) (.slice (some ⟨b, o, none⟩) len cap) (by kernel_rfl) (by kernel_rfl) (by kernel_rfl) (fun _ _ _ h => h) ⟨_, rfl, rfl, by rfl, fun w hSw => by go_simp⟩ (by assumption) ?_
                  try simp only [Act.put, List.setIfInBounds_toArray, List.set_cons_zero, List.set_cons_succ]
                  refine take_val 1 (some 31) (.int .i64 j) (by kernel_rfl) (by kernel_rfl) (by kernel_rfl) (fun _ _ _ h => h) ⟨_, rfl, rfl, by rfl, fun w hSw => by go_simp⟩ (by assumption) ?_
                  try simp only [Act.put, List.setIfInBounds_toArray, List.set_cons_zero, List.set_cons_succ]
                  refine take_val 2 (some 32) (.pointer (some ⟨b, o + j * 2, none⟩)) (by kernel_rfl) (by kernel_rfl) (by kernel_rfl) (fun _ _ _ h => h) ⟨_, rfl, rfl, by rfl, fun w hSw => by go_simp⟩ (by assumption) ?_
                  try simp only [Act.put, List.setIfInBounds_toArray, List.set_cons_zero, List.set_cons_succ]
                  refine take_val 3 (some 33) (.pointer (some ⟨b, o + j * 2, none⟩)) (by kernel_rfl) (by kernel_rfl) (by kernel_rfl) (fun _ _ _ h => h) ⟨_, rfl, rfl, by rfl, fun w hSw => by go_simp⟩ (by assumption) ?_
                  try simp only [Act.put, List.setIfInBounds_toArray, List.set_cons_zero, List.set_cons_succ]
                  refine take_val 4 (some 34) (.int .i64 y) (by kernel_rfl) (by kernel_rfl) (by kernel_rfl) (fun _ _ _ h => h) ⟨_, rfl, rfl, by rfl, fun w hSw => by go_simp⟩ (by assumption) ?_
                  try simp only [Act.put, List.setIfInBounds_toArray, List.set_cons_zero, List.set_cons_succ]
                  refine take_val 5 (some 35) (.slice (some ⟨g, 0, none⟩) l c) (by kernel_rfl) (by kernel_rfl) (by kernel_rfl) (fun _ _ _ h => h) ⟨_, rfl, rfl, by rfl, fun w hSw => by go_simp⟩ (by assumption) ?_
                  try simp only [Act.put, List.setIfInBounds_toArray, List.set_cons_zero, List.set_cons_succ]
                  refine take_val 6 (some 36) (.int .i64 k) (by kernel_rfl) (by kernel_rfl) (by kernel_rfl) (fun _ _ _ h => h) ⟨_, rfl, rfl, by rfl, fun w hSw => by go_simp⟩ (by assumption) ?_
                  try simp only [Act.put, List.setIfInBounds_toArray, List.set_cons_zero, List.set_cons_succ]
                  refine take_val 7 (some 37) (.pointer (some ⟨g, k, none⟩)) (by kernel_rfl) (by kernel_rfl) (by kernel_rfl) (fun _ _ _ h => h) ⟨_, rfl, rfl, by rfl, fun w hSw => by go_simp⟩ (by assumption) ?_
                  try simp only [Act.put, List.setIfInBounds_toArray, List.set_cons_zero, List.set_cons_succ]
                  refine take_val 8 (some 38) (.int .i64 y) (by kernel_rfl) (by kernel_rfl) (by kernel_rfl) (fun _ _ _ h => h) ⟨_, rfl, rfl, by rfl, fun w hSw => by go_simp⟩ (by assumption) ?_
                  try simp only [Act.put, List.setIfInBounds_toArray, List.set_cons_zero, List.set_cons_succ]
                  refine take_val 9 (some 39) (.bool true) (by kernel_rfl) (by kernel_rfl) (by kernel_rfl) (fun _ _ _ h => h) ⟨_, rfl, rfl, by rfl, fun w hSw => by go_simp⟩ (by assumption) ?_
                  try simp only [Act.put, List.setIfInBounds_toArray, List.set_cons_zero, List.set_cons_succ]
                  refine take_val 10 (some 40) (.bool true) (by kernel_rfl) (by kernel_rfl) (by kernel_rfl) (fun _ _ _ h => h) ⟨_, rfl, rfl, by rfl, fun w hSw => by go_simp⟩ (by assumption) ?_
                  try simp only [Act.put, List.setIfInBounds_toArray, List.set_cons_zero, List.set_cons_succ]
                  refine take_val 11 (some 41) (.slice (some ⟨g, 0, none⟩) l c) (by kernel_rfl) (by kernel_rfl) (by kernel_rfl) (fun _ _ _ h => h) ⟨_, rfl, rfl, by rfl, fun w hSw => by go_simp⟩ (by assumption) ?_
                  try simp only [Act.put, List.setIfInBounds_toArray, List.set_cons_zero, List.set_cons_succ]
                  refine take_val 12 (some 42) (.slice (some ⟨b, o, none⟩) len cap) (by kernel_rfl) (by kernel_rfl) (by kernel_rfl) (fun _ _ _ h => h) ⟨_, rfl, rfl, by rfl, fun w hSw => by go_simp⟩ (by assumption) ?_
                  try simp only [Act.put, List.setIfInBounds_toArray, List.set_cons_zero, List.set_cons_succ]
                  refine take_val 13 (some 43) (.int .i64 j) (by kernel_rfl) (by kernel_rfl) (by kernel_rfl) (fun _ _ _ h => h) ⟨_, rfl, rfl, by rfl, fun w hSw => by go_simp⟩ (by assumption) ?_
                  try simp only [Act.put, List.setIfInBounds_toArray, List.set_cons_zero, List.set_cons_succ]
                  refine take_val 14 (some 44) (.pointer (some ⟨b, o + j * 2, none⟩)) (by kernel_rfl) (by kernel_rfl) (by kernel_rfl) (fun _ _ _ h => h) ⟨_, rfl, rfl, by rfl, fun w hSw => by go_simp⟩ (by assumption) ?_
                  try simp only [Act.put, List.setIfInBounds_toArray, List.set_cons_zero, List.set_cons_succ]
                  refine take_val 15 (some 45) (.pointer (some ⟨b, o + j * 2 + 1, none⟩)) (by kernel_rfl) (by kernel_rfl) (by kernel_rfl) (fun _ _ _ h => h) ⟨_, rfl, rfl, by rfl, fun w hSw => by go_simp⟩ (by assumption) ?_
                  try simp only [Act.put, List.setIfInBounds_toArray, List.set_cons_zero, List.set_cons_succ]
                  refine take_val 16 (some 46) (.int .i64 q) (by kernel_rfl) (by kernel_rfl) (by kernel_rfl) (fun _ _ _ h => h) ⟨_, rfl, rfl, by rfl, fun w hSw => by go_simp⟩ (by assumption) ?_
                  try simp only [Act.put, List.setIfInBounds_toArray, List.set_cons_zero, List.set_cons_succ]
                  refine wpAnyH_ready (rs := [17]) (by kernel_rfl) (by simp) ?_
                  refine AllReadyH.cons rfl (fun K hK => ?_) AllReadyH.nil
                  go_simp
                  go_at_call 42
                  refine (has_any _ _ _ _ near q (by omega) HOD.out.sees).mono ?_
                  rw [HQ.out]
                  rintro e z2 ⟨rfl, rfl⟩
                  clear hHeld
                  refine hK.out _ _ (by exact HSS.out) (fun hHeld => ?_)
                  clear hK K
                  try simp only [Act.put, List.setIfInBounds_toArray, List.set_cons_zero, List.set_cons_succ]
                  refine take_val 18 (some 48) (.bool true) (by kernel_rfl) (by kernel_rfl) (by kernel_rfl) (fun _ _ _ h => h) ⟨_, rfl, rfl, by rfl, fun w hSw => by go_simp⟩ (by assumption) ?_
                  try simp only [Act.put, List.setIfInBounds_toArray, List.set_cons_zero, List.set_cons_succ]
                  refine take_val 19 (some 49) (.bool true) (by kernel_rfl) (by kernel_rfl) (by kernel_rfl) (fun _ _ _ h => h) ⟨_, rfl, rfl, by rfl, fun w hSw => by go_simp⟩ (by assumption) ?_
                  try simp only [Act.put, List.setIfInBounds_toArray, List.set_cons_zero, List.set_cons_succ]
                  refine wpAnyH_done (by kernel_rfl) ?_ _
                  refine NoPanic.normal ?_
                  go_wp2_with (at_builtin; refine wp_append_sees rfl _ _ 34 rfl 3 i0 .i64 8 Try.underlying34 hi hz0 hz1 hz2 _ _ _ _ rfl _ _ (HOD.out.alloc _) _ _ _ _ rfl (sees_one (x := q) HQW.out _ _) (by unfold maxLen; omega) (by omega) (by simp <;> omega) ?_; intro a5 len5 cap5 w5 hlen5 ho5 hm5; have hl5 : l < len5 := (by omega); have hl6 : len5 ≤ l + 1 := (by omega); clear hlen5; obtain ⟨g5, rfl⟩ := own_someC ho5; have HO5 := Lib.hid ho5; have HB5 := Lib.hid (below_moved (HBD.out.alloc (by simp <;> omega) _) hm5 (Nat.le_refl _) (Nat.le_refl _)); clear ho5 hm5)
                  have HG5 : Hid ((near ++ [q]).getD k 0 = y) := Lib.hid (by rw [getD_leftI HKN.out]; exact HY.out)
                  have HS5 := Lib.hid (show (w5.cell? ⟨b, o + j * 2, none⟩ = some (.int .i64 y) ∧ w5.cell? ⟨b, o + j * 2 + 1, none⟩ = some (.int .i64 q)) ∧ w5.cell? ⟨g5, k, none⟩ = some (.int .i64 y) from by
                    have f0 := (HB5.out.cell (p := ⟨b, o + j * 2, none⟩) hb0).trans (HC.out j hjl).1
                    have f1 := (HB5.out.cell (p := ⟨b, o + j * 2 + 1, none⟩) hb0).trans (HC.out j hjl).2
                    rw [← HMJ.out j hji, HPQ.out] at f0 f1
                    have f2 := own_cellC HO5.out (j := k) (by omega)
                    rw [HG5.out] at f2
                    exact ⟨⟨f0, f1⟩, f2⟩)
                  have n5 : (k : Int) < (len5 : Int) := by omega
                  go_wp2_with fail
                  refine wp_region_noPanic ?_
                  refine wp_region_held_drew (S := (fun w' => (w'.cell? ⟨b, o + j * 2, none⟩ = some (.int .i64 y) ∧ w'.cell? ⟨b, o + j * 2 + 1, none⟩ = some (.int .i64 q)) ∧ w'.cell? ⟨g5, k, none⟩ = some (.int .i64 y))) (by kernel_rfl) ?_ (fun hHeld => ?_)
                  · exact HS5.out
                  refine take_val 0 (some 58) (.slice (some ⟨b, o, none⟩) len cap) (by kernel_rfl) (by kernel_rfl) (by kernel_rfl) (fun _ _ _ h => h) ⟨_, rfl, rfl, by rfl, fun w hSw => by go_simp⟩ (by assumption) ?_
                  try simp only [Act.put, List.setIfInBounds_toArray, List.set_cons_zero, List.set_cons_succ]
                  refine take_val 1 (some 59) (.int .i64 j) (by kernel_rfl) (by kernel_rfl) (by kernel_rfl) (fun _ _ _ h => h) ⟨_, rfl, rfl, by rfl, fun w hSw => by go_simp⟩ (by assumption) ?_
                  try simp only [Act.put, List.setIfInBounds_toArray, List.set_cons_zero, List.set_cons_succ]
                  refine take_val 2 (some 60) (.pointer (some ⟨b, o + j * 2, none⟩)) (by kernel_rfl) (by kernel_rfl) (by kernel_rfl) (fun _ _ _ h => h) ⟨_, rfl, rfl, by rfl, fun w hSw => by go_simp⟩ (by assumption) ?_
                  try simp only [Act.put, List.setIfInBounds_toArray, List.set_cons_zero, List.set_cons_succ]
                  refine take_val 3 (some 61) (.pointer (some ⟨b, o + j * 2 + 1, none⟩)) (by kernel_rfl) (by kernel_rfl) (by kernel_rfl) (fun _ _ _ h => h) ⟨_, rfl, rfl, by rfl, fun w hSw => by go_simp⟩ (by assumption) ?_
                  try simp only [Act.put, List.setIfInBounds_toArray, List.set_cons_zero, List.set_cons_succ]
                  refine take_val 4 (some 62) (.int .i64 q) (by kernel_rfl) (by kernel_rfl) (by kernel_rfl) (fun _ _ _ h => h) ⟨_, rfl, rfl, by rfl, fun w hSw => by go_simp⟩ (by assumption) ?_
                  try simp only [Act.put, List.setIfInBounds_toArray, List.set_cons_zero, List.set_cons_succ]
                  refine take_val 5 (some 63) (.slice (some ⟨g5, 0, none⟩) len5 cap5) (by kernel_rfl) (by kernel_rfl) (by kernel_rfl) (fun _ _ _ h => h) ⟨_, rfl, rfl, by rfl, fun w hSw => by go_simp⟩ (by assumption) ?_
                  try simp only [Act.put, List.setIfInBounds_toArray, List.set_cons_zero, List.set_cons_succ]
                  refine take_val 6 (some 64) (.int .i64 k) (by kernel_rfl) (by kernel_rfl) (by kernel_rfl) (fun _ _ _ h => h) ⟨_, rfl, rfl, by rfl, fun w hSw => by go_simp⟩ (by assumption) ?_
                  try simp only [Act.put, List.setIfInBounds_toArray, List.set_cons_zero, List.set_cons_succ]
                  refine take_val 7 (some 65) (.pointer (some ⟨g5, k, none⟩)) (by kernel_rfl) (by kernel_rfl) (by kernel_rfl) (fun _ _ _ h => h) ⟨_, rfl, rfl, by rfl, fun w hSw => by go_simp⟩ (by assumption) ?_
                  try simp only [Act.put, List.setIfInBounds_toArray, List.set_cons_zero, List.set_cons_succ]
                  refine take_val 8 (some 66) (.int .i64 y) (by kernel_rfl) (by kernel_rfl) (by kernel_rfl) (fun _ _ _ h => h) ⟨_, rfl, rfl, by rfl, fun w hSw => by go_simp⟩ (by assumption) ?_
                  try simp only [Act.put, List.setIfInBounds_toArray, List.set_cons_zero, List.set_cons_succ]
                  refine take_val 9 (some 67) (.bool false) (by kernel_rfl) (by kernel_rfl) (by kernel_rfl) (fun _ _ _ h => h) ⟨_, rfl, rfl, by rfl, fun w hSw => by go_simp⟩ (by assumption) ?_
                  try simp only [Act.put, List.setIfInBounds_toArray, List.set_cons_zero, List.set_cons_succ]
                  refine take_val 10 (some 68) (.bool false) (by kernel_rfl) (by kernel_rfl) (by kernel_rfl) (fun _ _ _ h => h) ⟨_, rfl, rfl, by rfl, fun w hSw => by go_simp⟩ (by assumption) ?_
                  try simp only [Act.put, List.setIfInBounds_toArray, List.set_cons_zero, List.set_cons_succ]
                  refine take_un 11 (some 69) (by kernel_rfl) (by kernel_rfl) (by kernel_rfl) (fun _ _ _ h => h) ⟨_, rfl, rfl, by rfl⟩ (by assumption) ?_
                  try simp only [Act.put, List.setIfInBounds_toArray, List.set_cons_zero, List.set_cons_succ]
                  refine take_un 12 (some 70) (by kernel_rfl) (by kernel_rfl) (by kernel_rfl) (fun _ _ _ h => h) ⟨_, rfl, rfl, by rfl⟩ (by assumption) ?_
                  try simp only [Act.put, List.setIfInBounds_toArray, List.set_cons_zero, List.set_cons_succ]
                  refine take_un 13 (some 71) (by kernel_rfl) (by kernel_rfl) (by kernel_rfl) (fun _ _ _ h => h) ⟨_, rfl, rfl, by rfl⟩ (by assumption) ?_
                  try simp only [Act.put, List.setIfInBounds_toArray, List.set_cons_zero, List.set_cons_succ]
                  refine take_un 14 (some 72) (by kernel_rfl) (by kernel_rfl) (by kernel_rfl) (fun _ _ _ h => h) ⟨_, rfl, rfl, by rfl⟩ (by assumption) ?_
                  try simp only [Act.put, List.setIfInBounds_toArray, List.set_cons_zero, List.set_cons_succ]
                  refine take_un 15 (some 73) (by kernel_rfl) (by kernel_rfl) (by kernel_rfl) (fun _ _ _ h => h) ⟨_, rfl, rfl, by rfl⟩ (by assumption) ?_
                  try simp only [Act.put, List.setIfInBounds_toArray, List.set_cons_zero, List.set_cons_succ]
                  refine take_un 16 (some 74) (by kernel_rfl) (by kernel_rfl) (by kernel_rfl) (fun _ _ _ h => h) ⟨_, rfl, rfl, by rfl⟩ (by assumption) ?_
                  try simp only [Act.put, List.setIfInBounds_toArray, List.set_cons_zero, List.set_cons_succ]
                  refine take_un 17 (some 75) (by kernel_rfl) (by kernel_rfl) (by kernel_rfl) (fun _ _ _ h => h) ⟨_, rfl, rfl, by rfl⟩ (by assumption) ?_
                  try simp only [Act.put, List.setIfInBounds_toArray, List.set_cons_zero, List.set_cons_succ]
                  refine take_un 18 (some 76) (by kernel_rfl) (by kernel_rfl) (by kernel_rfl) (fun _ _ _ h => h) ⟨_, rfl, rfl, by rfl⟩ (by assumption) ?_
                  try simp only [Act.put, List.setIfInBounds_toArray, List.set_cons_zero, List.set_cons_succ]
                  refine take_val 19 (some 77) (.bool false) (by kernel_rfl) (by kernel_rfl) (by kernel_rfl) (fun _ _ _ h => h) ⟨_, rfl, rfl, by rfl, fun w hSw => by go_simp⟩ (by assumption) ?_
                  try simp only [Act.put, List.setIfInBounds_toArray, List.set_cons_zero, List.set_cons_succ]
                  refine wpAnyH_done (by kernel_rfl) ?_ _
                  refine NoPanic.normal ?_
                  go_wp2
                  go_roundw
                  case rel => exact ⟨j + 1, g5, len5, cap5, near ++ [q], by omega, by omega, rfl, by go_num, (HO5.out.below (Below.refl w5.heap.size w5).drew), Lib.hid (HNX.out), HB5.out.drew⟩
                  case measure => simp [intOf]; omega
                · have HQ := Lib.hid hq
                  have HNX := Lib.hid (nearC_skip HNR.out HPQ.out HY.out (fun _ => of_decide_eq_true hq) (fun _ => nearC_mem HY.out HKN.out))
                  have HYN : Hid (hasB near y = true) := Lib.hid (decide_eq_true (nearC_mem HY.out HKN.out))
                  clear hq
                  have HOE := Lib.hid (HOD.out.below (Below.refl U.drew.heap.size U.drew).drew)
                  have HBE := Lib.hid (show Below W.heap.size W U.drew.drew from HBD.out.drew)
                  by_cases h2 : y = q
                  · subst h2
                    go_wp2_with fail
                    refine wp_region_noPanic ?_
                    refine wp_region_held_drew (S := (fun w' => (w'.cell? ⟨b, o + j * 2, none⟩ = some (.int .i64 y) ∧ w'.cell? ⟨b, o + j * 2 + 1, none⟩ = some (.int .i64 y)) ∧ w'.cell? ⟨g, k, none⟩ = some (.int .i64 y))) (by kernel_rfl) ?_ (fun hHeld => ?_)
                    · exact HSS.out
                    refine take_val 0 (some 30) (.slice (some ⟨b, o, none⟩) len cap) (by kernel_rfl) (by kernel_rfl) (by kernel_rfl) (fun _ _ _ h => h) ⟨_, rfl, rfl, by rfl, fun w hSw => by go_simp⟩ (by assumption) ?_
                    try simp only [Act.put, List.setIfInBounds_toArray, List.set_cons_zero, List.set_cons_succ]
                    refine take_val 1 (some 31) (.int .i64 j) (by kernel_rfl) (by kernel_rfl) (by kernel_rfl) (fun _ _ _ h => h) ⟨_, rfl, rfl, by rfl, fun w hSw => by go_simp⟩ (by assumption) ?_
                    try simp only [Act.put, List.setIfInBounds_toArray, List.set_cons_zero, List.set_cons_succ]
                    refine take_val 2 (some 32) (.pointer (some ⟨b, o + j * 2, none⟩)) (by kernel_rfl) (by kernel_rfl) (by kernel_rfl) (fun _ _ _ h => h) ⟨_, rfl, rfl, by rfl, fun w hSw => by go_simp⟩ (by assumption) ?_
                    try simp only [Act.put, List.setIfInBounds_toArray, List.set_cons_zero, List.set_cons_succ]
                    refine take_val 3 (some 33) (.pointer (some ⟨b, o + j * 2, none⟩)) (by kernel_rfl) (by kernel_rfl) (by kernel_rfl) (fun _ _ _ h => h) ⟨_, rfl, rfl, by rfl, fun w hSw => by go_simp⟩ (by assumption) ?_
                    try simp only [Act.put, List.setIfInBounds_toArray, List.set_cons_zero, List.set_cons_succ]
                    refine take_val 4 (some 34) (.int .i64 y) (by kernel_rfl) (by kernel_rfl) (by kernel_rfl) (fun _ _ _ h => h) ⟨_, rfl, rfl, by rfl, fun w hSw => by go_simp⟩ (by assumption) ?_
                    try simp only [Act.put, List.setIfInBounds_toArray, List.set_cons_zero, List.set_cons_succ]
                    refine take_val 5 (some 35) (.slice (some ⟨g, 0, none⟩) l c) (by kernel_rfl) (by kernel_rfl) (by kernel_rfl) (fun _ _ _ h => h) ⟨_, rfl, rfl, by rfl, fun w hSw => by go_simp⟩ (by assumption) ?_
                    try simp only [Act.put, List.setIfInBounds_toArray, List.set_cons_zero, List.set_cons_succ]
                    refine take_val 6 (some 36) (.int .i64 k) (by kernel_rfl) (by kernel_rfl) (by kernel_rfl) (fun _ _ _ h => h) ⟨_, rfl, rfl, by rfl, fun w hSw => by go_simp⟩ (by assumption) ?_
                    try simp only [Act.put, List.setIfInBounds_toArray, List.set_cons_zero, List.set_cons_succ]
                    refine take_val 7 (some 37) (.pointer (some ⟨g, k, none⟩)) (by kernel_rfl) (by kernel_rfl) (by kernel_rfl) (fun _ _ _ h => h) ⟨_, rfl, rfl, by rfl, fun w hSw => by go_simp⟩ (by assumption) ?_
                    try simp only [Act.put, List.setIfInBounds_toArray, List.set_cons_zero, List.set_cons_succ]
                    refine take_val 8 (some 38) (.int .i64 y) (by kernel_rfl) (by kernel_rfl) (by kernel_rfl) (fun _ _ _ h => h) ⟨_, rfl, rfl, by rfl, fun w hSw => by go_simp⟩ (by assumption) ?_
                    try simp only [Act.put, List.setIfInBounds_toArray, List.set_cons_zero, List.set_cons_succ]
                    refine take_val 9 (some 39) (.bool true) (by kernel_rfl) (by kernel_rfl) (by kernel_rfl) (fun _ _ _ h => h) ⟨_, rfl, rfl, by rfl, fun w hSw => by go_simp⟩ (by assumption) ?_
                    try simp only [Act.put, List.setIfInBounds_toArray, List.set_cons_zero, List.set_cons_succ]
                    refine take_val 10 (some 40) (.bool true) (by kernel_rfl) (by kernel_rfl) (by kernel_rfl) (fun _ _ _ h => h) ⟨_, rfl, rfl, by rfl, fun w hSw => by go_simp⟩ (by assumption) ?_
                    try simp only [Act.put, List.setIfInBounds_toArray, List.set_cons_zero, List.set_cons_succ]
                    refine take_val 11 (some 41) (.slice (some ⟨g, 0, none⟩) l c) (by kernel_rfl) (by kernel_rfl) (by kernel_rfl) (fun _ _ _ h => h) ⟨_, rfl, rfl, by rfl, fun w hSw => by go_simp⟩ (by assumption) ?_
                    try simp only [Act.put, List.setIfInBounds_toArray, List.set_cons_zero, List.set_cons_succ]
                    refine take_val 12 (some 42) (.slice (some ⟨b, o, none⟩) len cap) (by kernel_rfl) (by kernel_rfl) (by kernel_rfl) (fun _ _ _ h => h) ⟨_, rfl, rfl, by rfl, fun w hSw => by go_simp⟩ (by assumption) ?_
                    try simp only [Act.put, List.setIfInBounds_toArray, List.set_cons_zero, List.set_cons_succ]
                    refine take_val 13 (some 43) (.int .i64 j) (by kernel_rfl) (by kernel_rfl) (by kernel_rfl) (fun _ _ _ h => h) ⟨_, rfl, rfl, by rfl, fun w hSw => by go_simp⟩ (by assumption) ?_
                    try simp only [Act.put, List.setIfInBounds_toArray, List.set_cons_zero, List.set_cons_succ]
                    refine take_val 14 (some 44) (.pointer (some ⟨b, o + j * 2, none⟩)) (by kernel_rfl) (by kernel_rfl) (by kernel_rfl) (fun _ _ _ h => h) ⟨_, rfl, rfl, by rfl, fun w hSw => by go_simp⟩ (by assumption) ?_
                    try simp only [Act.put, List.setIfInBounds_toArray, List.set_cons_zero, List.set_cons_succ]
                    refine take_val 15 (some 45) (.pointer (some ⟨b, o + j * 2 + 1, none⟩)) (by kernel_rfl) (by kernel_rfl) (by kernel_rfl) (fun _ _ _ h => h) ⟨_, rfl, rfl, by rfl, fun w hSw => by go_simp⟩ (by assumption) ?_
                    try simp only [Act.put, List.setIfInBounds_toArray, List.set_cons_zero, List.set_cons_succ]
                    refine take_val 16 (some 46) (.int .i64 y) (by kernel_rfl) (by kernel_rfl) (by kernel_rfl) (fun _ _ _ h => h) ⟨_, rfl, rfl, by rfl, fun w hSw => by go_simp⟩ (by assumption) ?_
                    try simp only [Act.put, List.setIfInBounds_toArray, List.set_cons_zero, List.set_cons_succ]
                    refine wpAnyH_ready (rs := [17]) (by kernel_rfl) (by simp) ?_
                    refine AllReadyH.cons rfl (fun K hK => ?_) AllReadyH.nil
                    go_simp
                    go_at_call 42
                    refine (has_any _ _ _ _ near y (by omega) HOD.out.sees).mono ?_
                    rw [HQ.out]
                    rintro e z2 ⟨rfl, rfl⟩
                    clear hHeld
                    refine hK.out _ _ (by exact HSS.out) (fun hHeld => ?_)
                    clear hK K
                    try simp only [Act.put, List.setIfInBounds_toArray, List.set_cons_zero, List.set_cons_succ]
                    refine take_val 18 (some 48) (.bool false) (by kernel_rfl) (by kernel_rfl) (by kernel_rfl) (fun _ _ _ h => h) ⟨_, rfl, rfl, by rfl, fun w hSw => by go_simp⟩ (by assumption) ?_
                    try simp only [Act.put, List.setIfInBounds_toArray, List.set_cons_zero, List.set_cons_succ]
                    refine take_val 19 (some 49) (.bool false) (by kernel_rfl) (by kernel_rfl) (by kernel_rfl) (fun _ _ _ h => h) ⟨_, rfl, rfl, by rfl, fun w hSw => by go_simp⟩ (by assumption) ?_
                    try simp only [Act.put, List.setIfInBounds_toArray, List.set_cons_zero, List.set_cons_succ]
                    refine wpAnyH_done (by kernel_rfl) ?_ _
                    refine NoPanic.normal ?_
                    go_wp2_with fail
                    refine wp_region_noPanic ?_
                    refine wp_region_held_drew (S := (fun w' => (w'.cell? ⟨b, o + j * 2, none⟩ = some (.int .i64 y) ∧ w'.cell? ⟨b, o + j * 2 + 1, none⟩ = some (.int .i64 y)) ∧ w'.cell? ⟨g, k, none⟩ = some (.int .i64 y))) (by kernel_rfl) ?_ (fun hHeld => ?_)
                    · exact HSS.out
                    refine take_val 0 (some 58) (.slice (some ⟨b, o, none⟩) len cap) (by kernel_rfl) (by kernel_rfl) (by kernel_rfl) (fun _ _ _ h => h) ⟨_, rfl, rfl, by rfl, fun w hSw => by go_simp⟩ (by assumption) ?_
                    try simp only [Act.put, List.setIfInBounds_toArray, List.set_cons_zero, List.set_cons_succ]
                    refine take_val 1 (some 59) (.int .i64 j) (by kernel_rfl) (by kernel_rfl) (by kernel_rfl) (fun _ _ _ h => h) ⟨_, rfl, rfl, by rfl, fun w hSw => by go_simp⟩ (by assumption) ?_
                    try simp only [Act.put, List.setIfInBounds_toArray, List.set_cons_zero, List.set_cons_succ]
                    refine take_val 2 (some 60) (.pointer (some ⟨b, o + j * 2, none⟩)) (by kernel_rfl) (by kernel_rfl) (by kernel_rfl) (fun _ _ _ h => h) ⟨_, rfl, rfl, by rfl, fun w hSw => by go_simp⟩ (by assumption) ?_
                    try simp only [Act.put, List.setIfInBounds_toArray, List.set_cons_zero, List.set_cons_succ]
                    refine take_val 3 (some 61) (.pointer (some ⟨b, o + j * 2 + 1, none⟩)) (by kernel_rfl) (by kernel_rfl) (by kernel_rfl) (fun _ _ _ h => h) ⟨_, rfl, rfl, by rfl, fun w hSw => by go_simp⟩ (by assumption) ?_
                    try simp only [Act.put, List.setIfInBounds_toArray, List.set_cons_zero, List.set_cons_succ]
                    refine take_val 4 (some 62) (.int .i64 y) (by kernel_rfl) (by kernel_rfl) (by kernel_rfl) (fun _ _ _ h => h) ⟨_, rfl, rfl, by rfl, fun w hSw => by go_simp⟩ (by assumption) ?_
                    try simp only [Act.put, List.setIfInBounds_toArray, List.set_cons_zero, List.set_cons_succ]
                    refine take_val 5 (some 63) (.slice (some ⟨g, 0, none⟩) l c) (by kernel_rfl) (by kernel_rfl) (by kernel_rfl) (fun _ _ _ h => h) ⟨_, rfl, rfl, by rfl, fun w hSw => by go_simp⟩ (by assumption) ?_
                    try simp only [Act.put, List.setIfInBounds_toArray, List.set_cons_zero, List.set_cons_succ]
                    refine take_val 6 (some 64) (.int .i64 k) (by kernel_rfl) (by kernel_rfl) (by kernel_rfl) (fun _ _ _ h => h) ⟨_, rfl, rfl, by rfl, fun w hSw => by go_simp⟩ (by assumption) ?_
                    try simp only [Act.put, List.setIfInBounds_toArray, List.set_cons_zero, List.set_cons_succ]
                    refine take_val 7 (some 65) (.pointer (some ⟨g, k, none⟩)) (by kernel_rfl) (by kernel_rfl) (by kernel_rfl) (fun _ _ _ h => h) ⟨_, rfl, rfl, by rfl, fun w hSw => by go_simp⟩ (by assumption) ?_
                    try simp only [Act.put, List.setIfInBounds_toArray, List.set_cons_zero, List.set_cons_succ]
                    refine take_val 8 (some 66) (.int .i64 y) (by kernel_rfl) (by kernel_rfl) (by kernel_rfl) (fun _ _ _ h => h) ⟨_, rfl, rfl, by rfl, fun w hSw => by go_simp⟩ (by assumption) ?_
                    try simp only [Act.put, List.setIfInBounds_toArray, List.set_cons_zero, List.set_cons_succ]
                    refine take_val 9 (some 67) (.bool true) (by kernel_rfl) (by kernel_rfl) (by kernel_rfl) (fun _ _ _ h => h) ⟨_, rfl, rfl, by rfl, fun w hSw => by go_simp⟩ (by assumption) ?_
                    try simp only [Act.put, List.setIfInBounds_toArray, List.set_cons_zero, List.set_cons_succ]
                    refine take_val 10 (some 68) (.bool true) (by kernel_rfl) (by kernel_rfl) (by kernel_rfl) (fun _ _ _ h => h) ⟨_, rfl, rfl, by rfl, fun w hSw => by go_simp⟩ (by assumption) ?_
                    try simp only [Act.put, List.setIfInBounds_toArray, List.set_cons_zero, List.set_cons_succ]
                    refine take_val 11 (some 69) (.slice (some ⟨g, 0, none⟩) l c) (by kernel_rfl) (by kernel_rfl) (by kernel_rfl) (fun _ _ _ h => h) ⟨_, rfl, rfl, by rfl, fun w hSw => by go_simp⟩ (by assumption) ?_
                    try simp only [Act.put, List.setIfInBounds_toArray, List.set_cons_zero, List.set_cons_succ]
                    refine take_val 12 (some 70) (.slice (some ⟨b, o, none⟩) len cap) (by kernel_rfl) (by kernel_rfl) (by kernel_rfl) (fun _ _ _ h => h) ⟨_, rfl, rfl, by rfl, fun w hSw => by go_simp⟩ (by assumption) ?_
                    try simp only [Act.put, List.setIfInBounds_toArray, List.set_cons_zero, List.set_cons_succ]
                    refine take_val 13 (some 71) (.int .i64 j) (by kernel_rfl) (by kernel_rfl) (by kernel_rfl) (fun _ _ _ h => h) ⟨_, rfl, rfl, by rfl, fun w hSw => by go_simp⟩ (by assumption) ?_
                    try simp only [Act.put, List.setIfInBounds_toArray, List.set_cons_zero, List.set_cons_succ]
                    refine take_val 14 (some 72) (.pointer (some ⟨b, o + j * 2, none⟩)) (by kernel_rfl) (by kernel_rfl) (by kernel_rfl) (fun _ _ _ h => h) ⟨_, rfl, rfl, by rfl, fun w hSw => by go_simp⟩ (by assumption) ?_
                    try simp only [Act.put, List.setIfInBounds_toArray, List.set_cons_zero, List.set_cons_succ]
                    refine take_val 15 (some 73) (.pointer (some ⟨b, o + j * 2, none⟩)) (by kernel_rfl) (by kernel_rfl) (by kernel_rfl) (fun _ _ _ h => h) ⟨_, rfl, rfl, by rfl, fun w hSw => by go_simp⟩ (by assumption) ?_
                    try simp only [Act.put, List.setIfInBounds_toArray, List.set_cons_zero, List.set_cons_succ]
                    refine take_val 16 (some 74) (.int .i64 y) (by kernel_rfl) (by kernel_rfl) (by kernel_rfl) (fun _ _ _ h => h) ⟨_, rfl, rfl, by rfl, fun w hSw => by go_simp⟩ (by assumption) ?_
                    try simp only [Act.put, List.setIfInBounds_toArray, List.set_cons_zero, List.set_cons_succ]
                    refine wpAnyH_ready (rs := [17]) (by kernel_rfl) (by simp) ?_
                    refine AllReadyH.cons rfl (fun K hK => ?_) AllReadyH.nil
                    go_simp
                    go_at_call 42
                    refine (has_any _ _ _ _ near y (by omega) HOE.out.sees).mono ?_
                    rw [HYN.out]
                    rintro e z2 ⟨rfl, rfl⟩
                    clear hHeld
                    refine hK.out _ _ (by exact HSS.out) (fun hHeld => ?_)
                    clear hK K
                    try simp only [Act.put, List.setIfInBounds_toArray, List.set_cons_zero, List.set_cons_succ]
                    refine take_val 18 (some 76) (.bool false) (by kernel_rfl) (by kernel_rfl) (by kernel_rfl) (fun _ _ _ h => h) ⟨_, rfl, rfl, by rfl, fun w hSw => by go_simp⟩ (by assumption) ?_
                    try simp only [Act.put, List.setIfInBounds_toArray, List.set_cons_zero, List.set_cons_succ]
                    refine take_val 19 (some 77) (.bool false) (by kernel_rfl) (by kernel_rfl) (by kernel_rfl) (fun _ _ _ h => h) ⟨_, rfl, rfl, by rfl, fun w hSw => by go_simp⟩ (by assumption) ?_
                    try simp only [Act.put, List.setIfInBounds_toArray, List.set_cons_zero, List.set_cons_succ]
                    refine wpAnyH_done (by kernel_rfl) ?_ _
                    refine NoPanic.normal ?_
                    go_wp2
                    go_roundw
                    case rel => exact ⟨j + 1, g, l, c, near, by omega, hkl, rfl, by go_num, HOE.out, Lib.hid (HNX.out), HBE.out⟩
                    case measure => simp [intOf]; omega
                  · have hqb : (q == y) = false := by rw [beq_eq_false_iff_ne]; exact fun e => h2 e.symm
                    go_wp2_with fail
                    refine wp_region_noPanic ?_
                    refine wp_region_held_drew (S := (fun w' => (w'.cell? ⟨b, o + j * 2, none⟩ = some (.int .i64 y) ∧ w'.cell? ⟨b, o + j * 2 + 1, none⟩ = some (.int .i64 q)) ∧ w'.cell? ⟨g, k, none⟩ = some (.int .i64 y))) (by kernel_rfl) ?_ (fun hHeld => ?_)
                    · exact HSS.out
                    refine take_val 0 (some 30) (.slice (some ⟨b, o, none⟩) len cap) (by kernel_rfl) (by kernel_rfl) (by kernel_rfl) (fun _ _ _ h => h) ⟨_, rfl, rfl, by rfl, fun w hSw => by go_simp⟩ (by assumption) ?_
                    try simp only [Act.put, List.setIfInBounds_toArray, List.set_cons_zero, List.set_cons_succ]
                    refine take_val 1 (some 31) (.int .i64 j) (by kernel_rfl) (by kernel_rfl) (by kernel_rfl) (fun _ _ _ h => h) ⟨_, rfl, rfl, by rfl, fun w hSw => by go_simp⟩ (by assumption) ?_
                    try simp only [Act.put, List.setIfInBounds_toArray, List.set_cons_zero, List.set_cons_succ]
                    refine take_val 2 (some 32) (.pointer (some ⟨b, o + j * 2, none⟩)) (by kernel_rfl) (by kernel_rfl) (by kernel_rfl) (fun _ _ _ h => h) ⟨_, rfl, rfl, by rfl, fun w hSw => by go_simp⟩ (by assumption) ?_
                    try simp only [Act.put, List.setIfInBounds_toArray, List.set_cons_zero, List.set_cons_succ]
                    refine take_val 3 (some 33) (.pointer (some ⟨b, o + j * 2, none⟩)) (by kernel_rfl) (by kernel_rfl) (by kernel_rfl) (fun _ _ _ h => h) ⟨_, rfl, rfl, by rfl, fun w hSw => by go_simp⟩ (by assumption) ?_
                    try simp only [Act.put, List.setIfInBounds_toArray, List.set_cons_zero, List.set_cons_succ]
                    refine take_val 4 (some 34) (.int .i64 y) (by kernel_rfl) (by kernel_rfl) (by kernel_rfl) (fun _ _ _ h => h) ⟨_, rfl, rfl, by rfl, fun w hSw => by go_simp⟩ (by assumption) ?_
                    try simp only [Act.put, List.setIfInBounds_toArray, List.set_cons_zero, List.set_cons_succ]
                    refine take_val 5 (some 35) (.slice (some ⟨g, 0, none⟩) l c) (by kernel_rfl) (by kernel_rfl) (by kernel_rfl) (fun _ _ _ h => h) ⟨_, rfl, rfl, by rfl, fun w hSw => by go_simp⟩ (by assumption) ?_
                    try simp only [Act.put, List.setIfInBounds_toArray, List.set_cons_zero, List.set_cons_succ]
                    refine take_val 6 (some 36) (.int .i64 k) (by kernel_rfl) (by kernel_rfl) (by kernel_rfl) (fun _ _ _ h => h) ⟨_, rfl, rfl, by rfl, fun w hSw => by go_simp⟩ (by assumption) ?_
                    try simp only [Act.put, List.setIfInBounds_toArray, List.set_cons_zero, List.set_cons_succ]
                    refine take_val 7 (some 37) (.pointer (some ⟨g, k, none⟩)) (by kernel_rfl) (by kernel_rfl) (by kernel_rfl) (fun _ _ _ h => h) ⟨_, rfl, rfl, by rfl, fun w hSw => by go_simp⟩ (by assumption) ?_
                    try simp only [Act.put, List.setIfInBounds_toArray, List.set_cons_zero, List.set_cons_succ]
                    refine take_val 8 (some 38) (.int .i64 y) (by kernel_rfl) (by kernel_rfl) (by kernel_rfl) (fun _ _ _ h => h) ⟨_, rfl, rfl, by rfl, fun w hSw => by go_simp⟩ (by assumption) ?_
                    try simp only [Act.put, List.setIfInBounds_toArray, List.set_cons_zero, List.set_cons_succ]
                    refine take_val 9 (some 39) (.bool true) (by kernel_rfl) (by kernel_rfl) (by kernel_rfl) (fun _ _ _ h => h) ⟨_, rfl, rfl, by rfl, fun w hSw => by go_simp⟩ (by assumption) ?_
                    try simp only [Act.put, List.setIfInBounds_toArray, List.set_cons_zero, List.set_cons_succ]
                    refine take_val 10 (some 40) (.bool true) (by kernel_rfl) (by kernel_rfl) (by kernel_rfl) (fun _ _ _ h => h) ⟨_, rfl, rfl, by rfl, fun w hSw => by go_simp⟩ (by assumption) ?_
                    try simp only [Act.put, List.setIfInBounds_toArray, List.set_cons_zero, List.set_cons_succ]
                    refine take_val 11 (some 41) (.slice (some ⟨g, 0, none⟩) l c) (by kernel_rfl) (by kernel_rfl) (by kernel_rfl) (fun _ _ _ h => h) ⟨_, rfl, rfl, by rfl, fun w hSw => by go_simp⟩ (by assumption) ?_
                    try simp only [Act.put, List.setIfInBounds_toArray, List.set_cons_zero, List.set_cons_succ]
                    refine take_val 12 (some 42) (.slice (some ⟨b, o, none⟩) len cap) (by kernel_rfl) (by kernel_rfl) (by kernel_rfl) (fun _ _ _ h => h) ⟨_, rfl, rfl, by rfl, fun w hSw => by go_simp⟩ (by assumption) ?_
                    try simp only [Act.put, List.setIfInBounds_toArray, List.set_cons_zero, List.set_cons_succ]
                    refine take_val 13 (some 43) (.int .i64 j) (by kernel_rfl) (by kernel_rfl) (by kernel_rfl) (fun _ _ _ h => h) ⟨_, rfl, rfl, by rfl, fun w hSw => by go_simp⟩ (by assumption) ?_
                    try simp only [Act.put, List.setIfInBounds_toArray, List.set_cons_zero, List.set_cons_succ]
                    refine take_val 14 (some 44) (.pointer (some ⟨b, o + j * 2, none⟩)) (by kernel_rfl) (by kernel_rfl) (by kernel_rfl) (fun _ _ _ h => h) ⟨_, rfl, rfl, by rfl, fun w hSw => by go_simp⟩ (by assumption) ?_
                    try simp only [Act.put, List.setIfInBounds_toArray, List.set_cons_zero, List.set_cons_succ]
                    refine take_val 15 (some 45) (.pointer (some ⟨b, o + j * 2 + 1, none⟩)) (by kernel_rfl) (by kernel_rfl) (by kernel_rfl) (fun _ _ _ h => h) ⟨_, rfl, rfl, by rfl, fun w hSw => by go_simp⟩ (by assumption) ?_
                    try simp only [Act.put, List.setIfInBounds_toArray, List.set_cons_zero, List.set_cons_succ]
                    refine take_val 16 (some 46) (.int .i64 q) (by kernel_rfl) (by kernel_rfl) (by kernel_rfl) (fun _ _ _ h => h) ⟨_, rfl, rfl, by rfl, fun w hSw => by go_simp⟩ (by assumption) ?_
                    try simp only [Act.put, List.setIfInBounds_toArray, List.set_cons_zero, List.set_cons_succ]
                    refine wpAnyH_ready (rs := [17]) (by kernel_rfl) (by simp) ?_
                    refine AllReadyH.cons rfl (fun K hK => ?_) AllReadyH.nil
                    go_simp
                    go_at_call 42
                    refine (has_any _ _ _ _ near q (by omega) HOD.out.sees).mono ?_
                    rw [HQ.out]
                    rintro e z2 ⟨rfl, rfl⟩
                    clear hHeld
                    refine hK.out _ _ (by exact HSS.out) (fun hHeld => ?_)
                    clear hK K
                    try simp only [Act.put, List.setIfInBounds_toArray, List.set_cons_zero, List.set_cons_succ]
                    refine take_val 18 (some 48) (.bool false) (by kernel_rfl) (by kernel_rfl) (by kernel_rfl) (fun _ _ _ h => h) ⟨_, rfl, rfl, by rfl, fun w hSw => by go_simp⟩ (by assumption) ?_
                    try simp only [Act.put, List.setIfInBounds_toArray, List.set_cons_zero, List.set_cons_succ]
                    refine take_val 19 (some 49) (.bool false) (by kernel_rfl) (by kernel_rfl) (by kernel_rfl) (fun _ _ _ h => h) ⟨_, rfl, rfl, by rfl, fun w hSw => by go_simp⟩ (by assumption) ?_
                    try simp only [Act.put, List.setIfInBounds_toArray, List.set_cons_zero, List.set_cons_succ]
                    refine wpAnyH_done (by kernel_rfl) ?_ _
                    refine NoPanic.normal ?_
                    go_wp2_with fail
                    refine wp_region_noPanic ?_
                    refine wp_region_held_drew (S := (fun w' => (w'.cell? ⟨b, o + j * 2, none⟩ = some (.int .i64 y) ∧ w'.cell? ⟨b, o + j * 2 + 1, none⟩ = some (.int .i64 q)) ∧ w'.cell? ⟨g, k, none⟩ = some (.int .i64 y))) (by kernel_rfl) ?_ (fun hHeld => ?_)
                    · exact HSS.out
                    refine take_val 0 (some 58) (.slice (some ⟨b, o, none⟩) len cap) (by kernel_rfl) (by kernel_rfl) (by kernel_rfl) (fun _ _ _ h => h) ⟨_, rfl, rfl, by rfl, fun w hSw => by go_simp⟩ (by assumption) ?_
                    try simp only [Act.put, List.setIfInBounds_toArray, List.set_cons_zero, List.set_cons_succ]
                    refine take_val 1 (some 59) (.int .i64 j) (by kernel_rfl) (by kernel_rfl) (by kernel_rfl) (fun _ _ _ h => h) ⟨_, rfl, rfl, by rfl, fun w hSw => by go_simp⟩ (by assumption) ?_
                    try simp only [Act.put, List.setIfInBounds_toArray, List.set_cons_zero, List.set_cons_succ]
                    refine take_val 2 (some 60) (.pointer (some ⟨b, o + j * 2, none⟩)) (by kernel_rfl) (by kernel_rfl) (by kernel_rfl) (fun _ _ _ h => h) ⟨_, rfl, rfl, by rfl, fun w hSw => by go_simp⟩ (by assumption) ?_
                    try simp only [Act.put, List.setIfInBounds_toArray, List.set_cons_zero, List.set_cons_succ]
                    refine take_val 3 (some 61) (.pointer (some ⟨b, o + j * 2 + 1, none⟩)) (by kernel_rfl) (by kernel_rfl) (by kernel_rfl) (fun _ _ _ h => h) ⟨_, rfl, rfl, by rfl, fun w hSw => by go_simp⟩ (by assumption) ?_
                    try simp only [Act.put, List.setIfInBounds_toArray, List.set_cons_zero, List.set_cons_succ]
                    refine take_val 4 (some 62) (.int .i64 q) (by kernel_rfl) (by kernel_rfl) (by kernel_rfl) (fun _ _ _ h => h) ⟨_, rfl, rfl, by rfl, fun w hSw => by go_simp⟩ (by assumption) ?_
                    try simp only [Act.put, List.setIfInBounds_toArray, List.set_cons_zero, List.set_cons_succ]
                    refine take_val 5 (some 63) (.slice (some ⟨g, 0, none⟩) l c) (by kernel_rfl) (by kernel_rfl) (by kernel_rfl) (fun _ _ _ h => h) ⟨_, rfl, rfl, by rfl, fun w hSw => by go_simp⟩ (by assumption) ?_
                    try simp only [Act.put, List.setIfInBounds_toArray, List.set_cons_zero, List.set_cons_succ]
                    refine take_val 6 (some 64) (.int .i64 k) (by kernel_rfl) (by kernel_rfl) (by kernel_rfl) (fun _ _ _ h => h) ⟨_, rfl, rfl, by rfl, fun w hSw => by go_simp⟩ (by assumption) ?_
                    try simp only [Act.put, List.setIfInBounds_toArray, List.set_cons_zero, List.set_cons_succ]
                    refine take_val 7 (some 65) (.pointer (some ⟨g, k, none⟩)) (by kernel_rfl) (by kernel_rfl) (by kernel_rfl) (fun _ _ _ h => h) ⟨_, rfl, rfl, by rfl, fun w hSw => by go_simp⟩ (by assumption) ?_
                    try simp only [Act.put, List.setIfInBounds_toArray, List.set_cons_zero, List.set_cons_succ]
                    refine take_val 8 (some 66) (.int .i64 y) (by kernel_rfl) (by kernel_rfl) (by kernel_rfl) (fun _ _ _ h => h) ⟨_, rfl, rfl, by rfl, fun w hSw => by go_simp⟩ (by assumption) ?_
                    try simp only [Act.put, List.setIfInBounds_toArray, List.set_cons_zero, List.set_cons_succ]
                    refine take_val 9 (some 67) (.bool false) (by kernel_rfl) (by kernel_rfl) (by kernel_rfl) (fun _ _ _ h => h) ⟨_, rfl, rfl, by rfl, fun w hSw => by go_simp⟩ (by assumption) ?_
                    try simp only [Act.put, List.setIfInBounds_toArray, List.set_cons_zero, List.set_cons_succ]
                    refine take_val 10 (some 68) (.bool false) (by kernel_rfl) (by kernel_rfl) (by kernel_rfl) (fun _ _ _ h => h) ⟨_, rfl, rfl, by rfl, fun w hSw => by go_simp⟩ (by assumption) ?_
                    try simp only [Act.put, List.setIfInBounds_toArray, List.set_cons_zero, List.set_cons_succ]
                    refine take_un 11 (some 69) (by kernel_rfl) (by kernel_rfl) (by kernel_rfl) (fun _ _ _ h => h) ⟨_, rfl, rfl, by rfl⟩ (by assumption) ?_
                    try simp only [Act.put, List.setIfInBounds_toArray, List.set_cons_zero, List.set_cons_succ]
                    refine take_un 12 (some 70) (by kernel_rfl) (by kernel_rfl) (by kernel_rfl) (fun _ _ _ h => h) ⟨_, rfl, rfl, by rfl⟩ (by assumption) ?_
                    try simp only [Act.put, List.setIfInBounds_toArray, List.set_cons_zero, List.set_cons_succ]
                    refine take_un 13 (some 71) (by kernel_rfl) (by kernel_rfl) (by kernel_rfl) (fun _ _ _ h => h) ⟨_, rfl, rfl, by rfl⟩ (by assumption) ?_
                    try simp only [Act.put, List.setIfInBounds_toArray, List.set_cons_zero, List.set_cons_succ]
                    refine take_un 14 (some 72) (by kernel_rfl) (by kernel_rfl) (by kernel_rfl) (fun _ _ _ h => h) ⟨_, rfl, rfl, by rfl⟩ (by assumption) ?_
                    try simp only [Act.put, List.setIfInBounds_toArray, List.set_cons_zero, List.set_cons_succ]
                    refine take_un 15 (some 73) (by kernel_rfl) (by kernel_rfl) (by kernel_rfl) (fun _ _ _ h => h) ⟨_, rfl, rfl, by rfl⟩ (by assumption) ?_
                    try simp only [Act.put, List.setIfInBounds_toArray, List.set_cons_zero, List.set_cons_succ]
                    refine take_un 16 (some 74) (by kernel_rfl) (by kernel_rfl) (by kernel_rfl) (fun _ _ _ h => h) ⟨_, rfl, rfl, by rfl⟩ (by assumption) ?_
                    try simp only [Act.put, List.setIfInBounds_toArray, List.set_cons_zero, List.set_cons_succ]
                    refine take_un 17 (some 75) (by kernel_rfl) (by kernel_rfl) (by kernel_rfl) (fun _ _ _ h => h) ⟨_, rfl, rfl, by rfl⟩ (by assumption) ?_
                    try simp only [Act.put, List.setIfInBounds_toArray, List.set_cons_zero, List.set_cons_succ]
                    refine take_un 18 (some 76) (by kernel_rfl) (by kernel_rfl) (by kernel_rfl) (fun _ _ _ h => h) ⟨_, rfl, rfl, by rfl⟩ (by assumption) ?_
                    try simp only [Act.put, List.setIfInBounds_toArray, List.set_cons_zero, List.set_cons_succ]
                    refine take_val 19 (some 77) (.bool false) (by kernel_rfl) (by kernel_rfl) (by kernel_rfl) (fun _ _ _ h => h) ⟨_, rfl, rfl, by rfl, fun w hSw => by go_simp⟩ (by assumption) ?_
                    try simp only [Act.put, List.setIfInBounds_toArray, List.set_cons_zero, List.set_cons_succ]
                    refine wpAnyH_done (by kernel_rfl) ?_ _
                    refine NoPanic.normal ?_
                    go_wp2
                    go_roundw
                    case rel => exact ⟨j + 1, g, l, c, near, by omega, hkl, rfl, by go_num, HOE.out, Lib.hid (HNX.out), HBE.out⟩
                    case measure => simp [intOf]; omega
              · have hpb : (p == y) = false := by rw [beq_eq_false_iff_ne]; exact fun e => h1 e.symm
                have HOE := Lib.hid (HOD.out.below (Below.refl U.drew.heap.size U.drew).drew)
                have HBE := Lib.hid (show Below W.heap.size W U.drew.drew from HBD.out.drew)
                by_cases h2 : y = q
                · subst h2
                  cases hp : hasB near p
                  · have HP := Lib.hid hp
                    have HNX := Lib.hid (nearC_back HNR.out HPQ.out HJM.out HY.out HKN.out rfl (of_decide_eq_false hp))
                    clear hp
                    go_wp2_with fail
                    refine wp_region_noPanic ?_
                    refine wp_region_held_drew (S := (fun w' => (w'.cell? ⟨b, o + j * 2, none⟩ = some (.int .i64 p) ∧ w'.cell? ⟨b, o + j * 2 + 1, none⟩ = some (.int .i64 y)) ∧ w'.cell? ⟨g, k, none⟩ = some (.int .i64 y))) (by kernel_rfl) ?_ (fun hHeld => ?_)
                    · exact HSS.out
                    refine take_val 0 (some 30) (.slice (some ⟨b, o, none⟩) len cap) (by kernel_rfl) (by kernel_rfl) (by kernel_rfl) (fun _ _ _ h => h) ⟨_, rfl, rfl, by rfl, fun w hSw => by go_simp⟩ (by assumption) ?_
                    try simp only [Act.put, List.setIfInBounds_toArray, List.set_cons_zero, List.set_cons_succ]
                    refine take_val 1 (some 31) (.int .i64 j) (by kernel_rfl) (by kernel_rfl) (by kernel_rfl) (fun _ _ _ h => h) ⟨_, rfl, rfl, by rfl, fun w hSw => by go_simp⟩ (by assumption) ?_
                    try simp only [Act.put, List.setIfInBounds_toArray, List.set_cons_zero, List.set_cons_succ]
                    refine take_val 2 (some 32) (.pointer (some ⟨b, o + j * 2, none⟩)) (by kernel_rfl) (by kernel_rfl) (by kernel_rfl) (fun _ _ _ h => h) ⟨_, rfl, rfl, by rfl, fun w hSw => by go_simp⟩ (by assumption) ?_
                    try simp only [Act.put, List.setIfInBounds_toArray, List.set_cons_zero, List.set_cons_succ]
                    refine take_val 3 (some 33) (.pointer (some ⟨b, o + j * 2, none⟩)) (by kernel_rfl) (by kernel_rfl) (by kernel_rfl) (fun _ _ _ h => h) ⟨_, rfl, rfl, by rfl, fun w hSw => by go_simp⟩ (by assumption) ?_
                    try simp only [Act.put, List.setIfInBounds_toArray, List.set_cons_zero, List.set_cons_succ]
                    refine take_val 4 (some 34) (.int .i64 p) (by kernel_rfl) (by kernel_rfl) (by kernel_rfl) (fun _ _ _ h => h) ⟨_, rfl, rfl, by rfl, fun w hSw => by go_simp⟩ (by assumption) ?_
                    try simp only [Act.put, List.setIfInBounds_toArray, List.set_cons_zero, List.set_cons_succ]
                    refine take_val 5 (some 35) (.slice (some ⟨g, 0, none⟩) l c) (by kernel_rfl) (by kernel_rfl) (by kernel_rfl) (fun _ _ _ h => h) ⟨_, rfl, rfl, by rfl, fun w hSw => by go_simp⟩ (by assumption) ?_
                    try simp only [Act.put, List.setIfInBounds_toArray, List.set_cons_zero, List.set_cons_succ]
                    refine take_val 6 (some 36) (.int .i64 k) (by kernel_rfl) (by kernel_rfl) (by kernel_rfl) (fun _ _ _ h => h) ⟨_, rfl, rfl, by rfl, fun w hSw => by go_simp⟩ (by assumption) ?_
                    try simp only [Act.put, List.setIfInBounds_toArray, List.set_cons_zero, List.set_cons_succ]
                    refine take_val 7 (some 37) (.pointer (some ⟨g, k, none⟩)) (by kernel_rfl) (by kernel_rfl) (by kernel_rfl) (fun _ _ _ h => h) ⟨_, rfl, rfl, by rfl, fun w hSw => by go_simp⟩ (by assumption) ?_
                    try simp only [Act.put, List.setIfInBounds_toArray, List.set_cons_zero, List.set_cons_succ]
                    refine take_val 8 (some 38) (.int .i64 y) (by kernel_rfl) (by kernel_rfl) (by kernel_rfl) (fun _ _ _ h => h) ⟨_, rfl, rfl, by rfl, fun w hSw => by go_simp⟩ (by assumption) ?_
                    try simp only [Act.put, List.setIfInBounds_toArray, List.set_cons_zero, List.set_cons_succ]
                    refine take_val 9 (some 39) (.bool false) (by kernel_rfl) (by kernel_rfl) (by kernel_rfl) (fun _ _ _ h => h) ⟨_, rfl, rfl, by rfl, fun w hSw => by go_simp⟩ (by assumption) ?_
                    try simp only [Act.put, List.setIfInBounds_toArray, List.set_cons_zero, List.set_cons_succ]
                    refine take_val 10 (some 40) (.bool false) (by kernel_rfl) (by kernel_rfl) (by kernel_rfl) (fun _ _ _ h => h) ⟨_, rfl, rfl, by rfl, fun w hSw => by go_simp⟩ (by assumption) ?_
                    try simp only [Act.put, List.setIfInBounds_toArray, List.set_cons_zero, List.set_cons_succ]
                    refine take_un 11 (some 41) (by kernel_rfl) (by kernel_rfl) (by kernel_rfl) (fun _ _ _ h => h) ⟨_, rfl, rfl, by rfl⟩ (by assumption) ?_
                    try simp only [Act.put, List.setIfInBounds_toArray, List.set_cons_zero, List.set_cons_succ]
                    refine take_un 12 (some 42) (by kernel_rfl) (by kernel_rfl) (by kernel_rfl) (fun _ _ _ h => h) ⟨_, rfl, rfl, by rfl⟩ (by assumption) ?_
                    try simp only [Act.put, List.setIfInBounds_toArray, List.set_cons_zero, List.set_cons_succ]
                    refine take_un 13 (some 43) (by kernel_rfl) (by kernel_rfl) (by kernel_rfl) (fun _ _ _ h => h) ⟨_, rfl, rfl, by rfl⟩ (by assumption) ?_
                    try simp only [Act.put, List.setIfInBounds_toArray, List.set_cons_zero, List.set_cons_succ]
                    refine take_un 14 (some 44) (by kernel_rfl) (by kernel_rfl) (by kernel_rfl) (fun _ _ _ h => h) ⟨_, rfl, rfl, by rfl⟩ (by assumption) ?_
                    try simp only [Act.put, List.setIfInBounds_toArray, List.set_cons_zero, List.set_cons_succ]
                    refine take_un 15 (some 45) (by kernel_rfl) (by kernel_rfl) (by kernel_rfl) (fun _ _ _ h => h) ⟨_, rfl, rfl, by rfl⟩ (by assumption) ?_
                    try simp only [Act.put, List.setIfInBounds_toArray, List.set_cons_zero, List.set_cons_succ]
                    refine take_un 16 (some 46) (by kernel_rfl) (by kernel_rfl) (by kernel_rfl) (fun _ _ _ h => h) ⟨_, rfl, rfl, by rfl⟩ (by assumption) ?_
                    try simp only [Act.put, List.setIfInBounds_toArray, List.set_cons_zero, List.set_cons_succ]
                    refine take_un 17 (some 47) (by kernel_rfl) (by kernel_rfl) (by kernel_rfl) (fun _ _ _ h => h) ⟨_, rfl, rfl, by rfl⟩ (by assumption) ?_
                    try simp only [Act.put, List.setIfInBounds_toArray, List.set_cons_zero, List.set_cons_succ]
                    refine take_un 18 (some 48) (by kernel_rfl) (by kernel_rfl) (by kernel_rfl) (fun _ _ _ h => h) ⟨_, rfl, rfl, by rfl⟩ (by assumption) ?_
                    try simp only [Act.put, List.setIfInBounds_toArray, List.set_cons_zero, List.set_cons_succ]
                    refine take_val 19 (some 49) (.bool false) (by kernel_rfl) (by kernel_rfl) (by kernel_rfl) (fun _ _ _ h => h) ⟨_, rfl, rfl, by rfl, fun w hSw => by go_simp⟩ (by assumption) ?_
                    try simp only [Act.put, List.setIfInBounds_toArray, List.set_cons_zero, List.set_cons_succ]
                    refine wpAnyH_done (by kernel_rfl) ?_ _
                    refine NoPanic.normal ?_
                    go_wp2_with fail
                    refine wp_region_noPanic ?_
                    refine wp_region_held_drew (S := (fun w' => (w'.cell? ⟨b, o + j * 2, none⟩ = some (.int .i64 p) ∧ w'.cell? ⟨b, o + j * 2 + 1, none⟩ = some (.int .i64 y)) ∧ w'.cell? ⟨g, k, none⟩ = some (.int .i64 y))) (by kernel_rfl) ?_ (fun hHeld => ?_)
                    · exact HSS.out
                    refine take_val 0 (some 58) (.slice (some ⟨b, o, none⟩) len cap) (by kernel_rfl) (by kernel_rfl) (by kernel_rfl) (fun _ _ _ h => h) ⟨_, rfl, rfl, by rfl, fun w hSw => by go_simp⟩ (by assumption) ?_
                    try simp only [Act.put, List.setIfInBounds_toArray, List.set_cons_zero, List.set_cons_succ]
                    refine take_val 1 (some 59) (.int .i64 j) (by kernel_rfl) (by kernel_rfl) (by kernel_rfl) (fun _ _ _ h => h) ⟨_, rfl, rfl, by rfl, fun w hSw => by go_simp⟩ (by assumption) ?_
                    try simp only [Act.put, List.setIfInBounds_toArray, List.set_cons_zero, List.set_cons_succ]
                    refine take_val 2 (some 60) (.pointer (some ⟨b, o + j * 2, none⟩)) (by kernel_rfl) (by kernel_rfl) (by kernel_rfl) (fun _ _ _ h => h) ⟨_, rfl, rfl, by rfl, fun w hSw => by go_simp⟩ (by assumption) ?_
                    try simp only [Act.put, List.setIfInBounds_toArray, List.set_cons_zero, List.set_cons_succ]
                    refine take_val 3 (some 61) (.pointer (some ⟨b, o + j * 2 + 1, none⟩)) (by kernel_rfl) (by kernel_rfl) (by kernel_rfl) (fun _ _ _ h => h) ⟨_, rfl, rfl, by rfl, fun w hSw => by go_simp⟩ (by assumption) ?_
                    try simp only [Act.put, List.setIfInBounds_toArray, List.set_cons_zero, List.set_cons_succ]
                    refine take_val 4 (some 62) (.int .i64 y) (by kernel_rfl) (by kernel_rfl) (by kernel_rfl) (fun _ _ _ h => h) ⟨_, rfl, rfl, by rfl, fun w hSw => by go_simp⟩ (by assumption) ?_
                    try simp only [Act.put, List.setIfInBounds_toArray, List.set_cons_zero, List.set_cons_succ]
                    refine take_val 5 (some 63) (.slice (some ⟨g, 0, none⟩) l c) (by kernel_rfl) (by kernel_rfl) (by kernel_rfl) (fun _ _ _ h => h) ⟨_, rfl, rfl, by rfl, fun w hSw => by go_simp⟩ (by assumption) ?_
                    try simp only [Act.put, List.setIfInBounds_toArray, List.set_cons_zero, List.set_cons_succ]
                    refine take_val 6 (some 64) (.int .i64 k) (by kernel_rfl) (by kernel_rfl) (by kernel_rfl) (fun _ _ _ h => h) ⟨_, rfl, rfl, by rfl, fun w hSw => by go_simp⟩ (by assumption) ?_
                    try simp only [Act.put, List.setIfInBounds_toArray, List.set_cons_zero, List.set_cons_succ]
                    refine take_val 7 (some 65) (.pointer (some ⟨g, k, none⟩)) (by kernel_rfl) (by kernel_rfl) (by kernel_rfl) (fun _ _ _ h => h) ⟨_, rfl, rfl, by rfl, fun w hSw => by go_simp⟩ (by assumption) ?_
                    try simp only [Act.put, List.setIfInBounds_toArray, List.set_cons_zero, List.set_cons_succ]
                    refine take_val 8 (some 66) (.int .i64 y) (by kernel_rfl) (by kernel_rfl) (by kernel_rfl) (fun _ _ _ h => h) ⟨_, rfl, rfl, by rfl, fun w hSw => by go_simp⟩ (by assumption) ?_
                    try simp only [Act.put, List.setIfInBounds_toArray, List.set_cons_zero, List.set_cons_succ]
                    refine take_val 9 (some 67) (.bool true) (by kernel_rfl) (by kernel_rfl) (by kernel_rfl) (fun _ _ _ h => h) ⟨_, rfl, rfl, by rfl, fun w hSw => by go_simp⟩ (by assumption) ?_
                    try simp only [Act.put, List.setIfInBounds_toArray, List.set_cons_zero, List.set_cons_succ]
                    refine take_val 10 (some 68) (.bool true) (by kernel_rfl) (by kernel_rfl) (by kernel_rfl) (fun _ _ _ h => h) ⟨_, rfl, rfl, by rfl, fun w hSw => by go_simp⟩ (by assumption) ?_
                    try simp only [Act.put, List.setIfInBounds_toArray, List.set_cons_zero, List.set_cons_succ]
                    refine take_val 11 (some 69) (.slice (some ⟨g, 0, none⟩) l c) (by kernel_rfl) (by kernel_rfl) (by kernel_rfl) (fun _ _ _ h => h) ⟨_, rfl, rfl, by rfl, fun w hSw => by go_simp⟩ (by assumption) ?_
                    try simp only [Act.put, List.setIfInBounds_toArray, List.set_cons_zero, List.set_cons_succ]
                    refine take_val 12 (some 70) (.slice (some ⟨b, o, none⟩) len cap) (by kernel_rfl) (by kernel_rfl) (by kernel_rfl) (fun _ _ _ h => h) ⟨_, rfl, rfl, by rfl, fun w hSw => by go_simp⟩ (by assumption) ?_
                    try simp only [Act.put, List.setIfInBounds_toArray, List.set_cons_zero, List.set_cons_succ]
                    refine take_val 13 (some 71) (.int .i64 j) (by kernel_rfl) (by kernel_rfl) (by kernel_rfl) (fun _ _ _ h => h) ⟨_, rfl, rfl, by rfl, fun w hSw => by go_simp⟩ (by assumption) ?_
                    try simp only [Act.put, List.setIfInBounds_toArray, List.set_cons_zero, List.set_cons_succ]
                    refine take_val 14 (some 72) (.pointer (some ⟨b, o + j * 2, none⟩)) (by kernel_rfl) (by kernel_rfl) (by kernel_rfl) (fun _ _ _ h => h) ⟨_, rfl, rfl, by rfl, fun w hSw => by go_simp⟩ (by assumption) ?_
                    try simp only [Act.put, List.setIfInBounds_toArray, List.set_cons_zero, List.set_cons_succ]
                    refine take_val 15 (some 73) (.pointer (some ⟨b, o + j * 2, none⟩)) (by kernel_rfl) (by kernel_rfl) (by kernel_rfl) (fun _ _ _ h => h) ⟨_, rfl, rfl, by rfl, fun w hSw => by go_simp⟩ (by assumption) ?_
                    try simp only [Act.put, List.setIfInBounds_toArray, List.set_cons_zero, List.set_cons_succ]
                    refine take_val 16 (some 74) (.int .i64 p) (by kernel_rfl) (by kernel_rfl) (by kernel_rfl) (fun _ _ _ h => h) ⟨_, rfl, rfl, by rfl, fun w hSw => by go_simp⟩ (by assumption) ?_
                    try simp only [Act.put, List.setIfInBounds_toArray, List.set_cons_zero, List.set_cons_succ]
                    refine wpAnyH_ready (rs := [17]) (by kernel_rfl) (by simp) ?_
                    refine AllReadyH.cons rfl (fun K hK => ?_) AllReadyH.nil
                    go_simp
                    go_at_call 42
                    refine (has_any _ _ _ _ near p (by omega) HOE.out.sees).mono ?_
                    rw [HP.out]
                    rintro e z2 ⟨rfl, rfl⟩
                    clear hHeld
                    refine hK.out _ _ (by exact HSS.out) (fun hHeld => ?_)
                    clear hK K
                    try simp only [Act.put, List.setIfInBounds_toArray, List.set_cons_zero, List.set_cons_succ]
                    refine take_val 18 (some 76) (.bool true) (by kernel_rfl) (by kernel_rfl) (by kernel_rfl) (fun _ _ _ h => h) ⟨_, rfl, rfl, by rfl, fun w hSw => by go_simp⟩ (by assumption) ?_
                    try simp only [Act.put, List.setIfInBounds_toArray, List.set_cons_zero, List.set_cons_succ]
                    refine take_val 19 (some 77) (.bool true) (by kernel_rfl) (by kernel_rfl) (by kernel_rfl) (fun _ _ _ h => h) ⟨_, rfl, rfl, by rfl, fun w hSw => by go_simp⟩ (by assumption) ?_
                    try simp only [Act.put, List.setIfInBounds_toArray, List.set_cons_zero, List.set_cons_succ]
                    refine wpAnyH_done (by kernel_rfl) ?_ _
                    refine NoPanic.normal ?_
                    go_wp2_with (at_builtin; refine wp_append_sees rfl _ _ 34 rfl 3 i0 .i64 8 Try.underlying34 hi hz0 hz1 hz2 _ _ _ _ rfl _ _ (HOE.out.alloc _) _ _ _ _ rfl (sees_one (x := p) HPW.out _ _) (by unfold maxLen; omega) (by omega) (by simp <;> omega) ?_; intro a5 len5 cap5 w5 hlen5 ho5 hm5; have hl5 : l < len5 := (by omega); have hl6 : len5 ≤ l + 1 := (by omega); clear hlen5; obtain ⟨g5, rfl⟩ := own_someC ho5; have HO5 := Lib.hid ho5; have HB5 := Lib.hid (below_moved (HBE.out.alloc (by simp <;> omega) _) hm5 (Nat.le_refl _) (Nat.le_refl _)); clear ho5 hm5)
                    go_wp2
                    go_roundw
                    case rel => exact ⟨j + 1, g5, len5, cap5, near ++ [p], by omega, by omega, rfl, by go_num, HO5.out, Lib.hid (HNX.out), HB5.out⟩
                    case measure => simp [intOf]; omega
                  · have HP := Lib.hid hp
                    have HNX := Lib.hid (nearC_skip HNR.out HPQ.out HY.out (fun e => absurd e.symm h1) (fun _ => of_decide_eq_true hp))
                    clear hp
                    go_wp2_with fail
                    refine wp_region_noPanic ?_
                    refine wp_region_held_drew (S := (fun w' => (w'.cell? ⟨b, o + j * 2, none⟩ = some (.int .i64 p) ∧ w'.cell? ⟨b, o + j * 2 + 1, none⟩ = some (.int .i64 y)) ∧ w'.cell? ⟨g, k, none⟩ = some (.int .i64 y))) (by kernel_rfl) ?_ (fun hHeld => ?_)
                    · exact HSS.out
                    refine take_val 0 (some 30) (.slice (some ⟨b, o, none⟩) len cap) (by kernel_rfl) (by kernel_rfl) (by kernel_rfl) (fun _ _ _ h => h) ⟨_, rfl, rfl, by rfl, fun w hSw => by go_simp⟩ (by assumption) ?_
                    try simp only [Act.put, List.setIfInBounds_toArray, List.set_cons_zero, List.set_cons_succ]
                    refine take_val 1 (some 31) (.int .i64 j) (by kernel_rfl) (by kernel_rfl) (by kernel_rfl) (fun _ _ _ h => h) ⟨_, rfl, rfl, by rfl, fun w hSw => by go_simp⟩ (by assumption) ?_
                    try simp only [Act.put, List.setIfInBounds_toArray, List.set_cons_zero, List.set_cons_succ]
                    refine take_val 2 (some 32) (.pointer (some ⟨b, o + j * 2, none⟩)) (by kernel_rfl) (by kernel_rfl) (by kernel_rfl) (fun _ _ _ h => h) ⟨_, rfl, rfl, by rfl, fun w hSw => by go_simp⟩ (by assumption) ?_
                    try simp only [Act.put, List.setIfInBounds_toArray, List.set_cons_zero, List.set_cons_succ]
                    refine take_val 3 (some 33) (.pointer (some ⟨b, o + j * 2, none⟩)) (by kernel_rfl) (by kernel_rfl) (by kernel_rfl) (fun _ _ _ h => h) ⟨_, rfl, rfl, by rfl, fun w hSw => by go_simp⟩ (by assumption) ?_
                    try simp only [Act.put, List.setIfInBounds_toArray, List.set_cons_zero, List.set_cons_succ]
                    refine take_val 4 (some 34) (.int .i64 p) (by kernel_rfl) (by kernel_rfl) (by kernel_rfl) (fun _ _ _ h => h) ⟨_, rfl, rfl, by rfl, fun w hSw => by go_simp⟩ (by assumption) ?_
                    try simp only [Act.put, List.setIfInBounds_toArray, List.set_cons_zero, List.set_cons_succ]
                    refine take_val 5 (some 35) (.slice (some ⟨g, 0, none⟩) l c) (by kernel_rfl) (by kernel_rfl) (by kernel_rfl) (fun _ _ _ h => h) ⟨_, rfl, rfl, by rfl, fun w hSw => by go_simp⟩ (by assumption) ?_
                    try simp only [Act.put, List.setIfInBounds_toArray, List.set_cons_zero, List.set_cons_succ]
                    refine take_val 6 (some 36) (.int .i64 k) (by kernel_rfl) (by kernel_rfl) (by kernel_rfl) (fun _ _ _ h => h) ⟨_, rfl, rfl, by rfl, fun w hSw => by go_simp⟩ (by assumption) ?_
                    try simp only [Act.put, List.setIfInBounds_toArray, List.set_cons_zero, List.set_cons_succ]
                    refine take_val 7 (some 37) (.pointer (some ⟨g, k, none⟩)) (by kernel_rfl) (by kernel_rfl) (by kernel_rfl) (fun _ _ _ h => h) ⟨_, rfl, rfl, by rfl, fun w hSw => by go_simp⟩ (by assumption) ?_
                    try simp only [Act.put, List.setIfInBounds_toArray, List.set_cons_zero, List.set_cons_succ]
                    refine take_val 8 (some 38) (.int .i64 y) (by kernel_rfl) (by kernel_rfl) (by kernel_rfl) (fun _ _ _ h => h) ⟨_, rfl, rfl, by rfl, fun w hSw => by go_simp⟩ (by assumption) ?_
                    try simp only [Act.put, List.setIfInBounds_toArray, List.set_cons_zero, List.set_cons_succ]
                    refine take_val 9 (some 39) (.bool false) (by kernel_rfl) (by kernel_rfl) (by kernel_rfl) (fun _ _ _ h => h) ⟨_, rfl, rfl, by rfl, fun w hSw => by go_simp⟩ (by assumption) ?_
                    try simp only [Act.put, List.setIfInBounds_toArray, List.set_cons_zero, List.set_cons_succ]
                    refine take_val 10 (some 40) (.bool false) (by kernel_rfl) (by kernel_rfl) (by kernel_rfl) (fun _ _ _ h => h) ⟨_, rfl, rfl, by rfl, fun w hSw => by go_simp⟩ (by assumption) ?_
                    try simp only [Act.put, List.setIfInBounds_toArray, List.set_cons_zero, List.set_cons_succ]
                    refine take_un 11 (some 41) (by kernel_rfl) (by kernel_rfl) (by kernel_rfl) (fun _ _ _ h => h) ⟨_, rfl, rfl, by rfl⟩ (by assumption) ?_
                    try simp only [Act.put, List.setIfInBounds_toArray, List.set_cons_zero, List.set_cons_succ]
                    refine take_un 12 (some 42) (by kernel_rfl) (by kernel_rfl) (by kernel_rfl) (fun _ _ _ h => h) ⟨_, rfl, rfl, by rfl⟩ (by assumption) ?_
                    try simp only [Act.put, List.setIfInBounds_toArray, List.set_cons_zero, List.set_cons_succ]
                    refine take_un 13 (some 43) (by kernel_rfl) (by kernel_rfl) (by kernel_rfl) (fun _ _ _ h => h) ⟨_, rfl, rfl, by rfl⟩ (by assumption) ?_
                    try simp only [Act.put, List.setIfInBounds_toArray, List.set_cons_zero, List.set_cons_succ]
                    refine take_un 14 (some 44) (by kernel_rfl) (by kernel_rfl) (by kernel_rfl) (fun _ _ _ h => h) ⟨_, rfl, rfl, by rfl⟩ (by assumption) ?_
                    try simp only [Act.put, List.setIfInBounds_toArray, List.set_cons_zero, List.set_cons_succ]
                    refine take_un 15 (some 45) (by kernel_rfl) (by kernel_rfl) (by kernel_rfl) (fun _ _ _ h => h) ⟨_, rfl, rfl, by rfl⟩ (by assumption) ?_
                    try simp only [Act.put, List.setIfInBounds_toArray, List.set_cons_zero, List.set_cons_succ]
                    refine take_un 16 (some 46) (by kernel_rfl) (by kernel_rfl) (by kernel_rfl) (fun _ _ _ h => h) ⟨_, rfl, rfl, by rfl⟩ (by assumption) ?_
                    try simp only [Act.put, List.setIfInBounds_toArray, List.set_cons_zero, List.set_cons_succ]
                    refine take_un 17 (some 47) (by kernel_rfl) (by kernel_rfl) (by kernel_rfl) (fun _ _ _ h => h) ⟨_, rfl, rfl, by rfl⟩ (by assumption) ?_
                    try simp only [Act.put, List.setIfInBounds_toArray, List.set_cons_zero, List.set_cons_succ]
                    refine take_un 18 (some 48) (by kernel_rfl) (by kernel_rfl) (by kernel_rfl) (fun _ _ _ h => h) ⟨_, rfl, rfl, by rfl⟩ (by assumption) ?_
                    try simp only [Act.put, List.setIfInBounds_toArray, List.set_cons_zero, List.set_cons_succ]
                    refine take_val 19 (some 49) (.bool false) (by kernel_rfl) (by kernel_rfl) (by kernel_rfl) (fun _ _ _ h => h) ⟨_, rfl, rfl, by rfl, fun w hSw => by go_simp⟩ (by assumption) ?_
                    try simp only [Act.put, List.setIfInBounds_toArray, List.set_cons_zero, List.set_cons_succ]
                    refine wpAnyH_done (by kernel_rfl) ?_ _
                    refine NoPanic.normal ?_
                    go_wp2_with fail
                    refine wp_region_noPanic ?_
                    refine wp_region_held_drew (S := (fun w' => (w'.cell? ⟨b, o + j * 2, none⟩ = some (.int .i64 p) ∧ w'.cell? ⟨b, o + j * 2 + 1, none⟩ = some (.int .i64 y)) ∧ w'.cell? ⟨g, k, none⟩ = some (.int .i64 y))) (by kernel_rfl) ?_ (fun hHeld => ?_)
                    · exact HSS.out
                    refine take_val 0 (some 58) (.slice (some ⟨b, o, none⟩) len cap) (by kernel_rfl) (by kernel_rfl) (by kernel_rfl) (fun _ _ _ h => h) ⟨_, rfl, rfl, by rfl, fun w hSw => by go_simp⟩ (by assumption) ?_
                    try simp only [Act.put, List.setIfInBounds_toArray, List.set_cons_zero, List.set_cons_succ]
                    refine take_val 1 (some 59) (.int .i64 j) (by kernel_rfl) (by kernel_rfl) (by kernel_rfl) (fun _ _ _ h => h) ⟨_, rfl, rfl, by rfl, fun w hSw => by go_simp⟩ (by assumption) ?_
                    try simp only [Act.put, List.setIfInBounds_toArray, List.set_cons_zero, List.set_cons_succ]
                    refine take_val 2 (some 60) (.pointer (some ⟨b, o + j * 2, none⟩)) (by kernel_rfl) (by kernel_rfl) (by kernel_rfl) (fun _ _ _ h => h) ⟨_, rfl, rfl, by rfl, fun w hSw => by go_simp⟩ (by assumption) ?_
                    try simp only [Act.put, List.setIfInBounds_toArray, List.set_cons_zero, List.set_cons_succ]
                    refine take_val 3 (some 61) (.pointer (some ⟨b, o + j * 2 + 1, none⟩)) (by kernel_rfl) (by kernel_rfl) (by kernel_rfl) (fun _ _ _ h => h) ⟨_, rfl, rfl, by rfl, fun w hSw => by go_simp⟩ (by assumption) ?_
                    try simp only [Act.put, List.setIfInBounds_toArray, List.set_cons_zero, List.set_cons_succ]
                    refine take_val 4 (some 62) (.int .i64 y) (by kernel_rfl) (by kernel_rfl) (by kernel_rfl) (fun _ _ _ h => h) ⟨_, rfl, rfl, by rfl, fun w hSw => by go_simp⟩ (by assumption) ?_
                    try simp only [Act.put, List.setIfInBounds_toArray, List.set_cons_zero, List.set_cons_succ]
                    refine take_val 5 (some 63) (.slice (some ⟨g, 0, none⟩) l c) (by kernel_rfl) (by kernel_rfl) (by kernel_rfl) (fun _ _ _ h => h) ⟨_, rfl, rfl, by rfl, fun w hSw => by go_simp⟩ (by assumption) ?_
                    try simp only [Act.put, List.setIfInBounds_toArray, List.set_cons_zero, List.set_cons_succ]
                    refine take_val 6 (some 64) (.int .i64 k) (by kernel_rfl) (by kernel_rfl) (by kernel_rfl) (fun _ _ _ h => h) ⟨_, rfl, rfl, by rfl, fun w hSw => by go_simp⟩ (by assumption) ?_
                    try simp only [Act.put, List.setIfInBounds_toArray, List.set_cons_zero, List.set_cons_succ]
                    refine take_val 7 (some 65) (.pointer (some ⟨g, k, none⟩)) (by kernel_rfl) (by kernel_rfl) (by kernel_rfl) (fun _ _ _ h => h) ⟨_, rfl, rfl, by rfl, fun w hSw => by go_simp⟩ (by assumption) ?_
                    try simp only [Act.put, List.setIfInBounds_toArray, List.set_cons_zero, List.set_cons_succ]
                    refine take_val 8 (some 66) (.int .i64 y) (by kernel_rfl) (by kernel_rfl) (by kernel_rfl) (fun _ _ _ h => h) ⟨_, rfl, rfl, by rfl, fun w hSw => by go_simp⟩ (by assumption) ?_
                    try simp only [Act.put, List.setIfInBounds_toArray, List.set_cons_zero, List.set_cons_succ]
                    refine take_val 9 (some 67) (.bool true) (by kernel_rfl) (by kernel_rfl) (by kernel_rfl) (fun _ _ _ h => h) ⟨_, rfl, rfl, by rfl, fun w hSw => by go_simp⟩ (by assumption) ?_
                    try simp only [Act.put, List.setIfInBounds_toArray, List.set_cons_zero, List.set_cons_succ]
                    refine take_val 10 (some 68) (.bool true) (by kernel_rfl) (by kernel_rfl) (by kernel_rfl) (fun _ _ _ h => h) ⟨_, rfl, rfl, by rfl, fun w hSw => by go_simp⟩ (by assumption) ?_
                    try simp only [Act.put, List.setIfInBounds_toArray, List.set_cons_zero, List.set_cons_succ]
                    refine take_val 11 (some 69) (.slice (some ⟨g, 0, none⟩) l c) (by kernel_rfl) (by kernel_rfl) (by kernel_rfl) (fun _ _ _ h => h) ⟨_, rfl, rfl, by rfl, fun w hSw => by go_simp⟩ (by assumption) ?_
                    try simp only [Act.put, List.setIfInBounds_toArray, List.set_cons_zero, List.set_cons_succ]
                    refine take_val 12 (some 70) (.slice (some ⟨b, o, none⟩) len cap) (by kernel_rfl) (by kernel_rfl) (by kernel_rfl) (fun _ _ _ h => h) ⟨_, rfl, rfl, by rfl, fun w hSw => by go_simp⟩ (by assumption) ?_
                    try simp only [Act.put, List.setIfInBounds_toArray, List.set_cons_zero, List.set_cons_succ]
                    refine take_val 13 (some 71) (.int .i64 j) (by kernel_rfl) (by kernel_rfl) (by kernel_rfl) (fun _ _ _ h => h) ⟨_, rfl, rfl, by rfl, fun w hSw => by go_simp⟩ (by assumption) ?_
                    try simp only [Act.put, List.setIfInBounds_toArray, List.set_cons_zero, List.set_cons_succ]
                    refine take_val 14 (some 72) (.pointer (some ⟨b, o + j * 2, none⟩)) (by kernel_rfl) (by kernel_rfl) (by kernel_rfl) (fun _ _ _ h => h) ⟨_, rfl, rfl, by rfl, fun w hSw => by go_simp⟩ (by assumption) ?_
                    try simp only [Act.put, List.setIfInBounds_toArray, List.set_cons_zero, List.set_cons_succ]
                    refine take_val 15 (some 73) (.pointer (some ⟨b, o + j * 2, none⟩)) (by kernel_rfl) (by kernel_rfl) (by kernel_rfl) (fun _ _ _ h => h) ⟨_, rfl, rfl, by rfl, fun w hSw => by go_simp⟩ (by assumption) ?_
                    try simp only [Act.put, List.setIfInBounds_toArray, List.set_cons_zero, List.set_cons_succ]
                    refine take_val 16 (some 74) (.int .i64 p) (by kernel_rfl) (by kernel_rfl) (by kernel_rfl) (fun _ _ _ h => h) ⟨_, rfl, rfl, by rfl, fun w hSw => by go_simp⟩ (by assumption) ?_
                    try simp only [Act.put, List.setIfInBounds_toArray, List.set_cons_zero, List.set_cons_succ]
                    refine wpAnyH_ready (rs := [17]) (by kernel_rfl) (by simp) ?_
                    refine AllReadyH.cons rfl (fun K hK => ?_) AllReadyH.nil
                    go_simp
                    go_at_call 42
                    refine (has_any _ _ _ _ near p (by omega) HOE.out.sees).mono ?_
                    rw [HP.out]
                    rintro e z2 ⟨rfl, rfl⟩
                    clear hHeld
                    refine hK.out _ _ (by exact HSS.out) (fun hHeld => ?_)
                    clear hK K
                    try simp only [Act.put, List.setIfInBounds_toArray, List.set_cons_zero, List.set_cons_succ]
                    refine take_val 18 (some 76) (.bool false) (by kernel_rfl) (by kernel_rfl) (by kernel_rfl) (fun _ _ _ h => h) ⟨_, rfl, rfl, by rfl, fun w hSw => by go_simp⟩ (by assumption) ?_
                    try simp only [Act.put, List.setIfInBounds_toArray, List.set_cons_zero, List.set_cons_succ]
                    refine take_val 19 (some 77) (.bool false) (by kernel_rfl) (by kernel_rfl) (by kernel_rfl) (fun _ _ _ h => h) ⟨_, rfl, rfl, by rfl, fun w hSw => by go_simp⟩ (by assumption) ?_
                    try simp only [Act.put, List.setIfInBounds_toArray, List.set_cons_zero, List.set_cons_succ]
                    refine wpAnyH_done (by kernel_rfl) ?_ _
                    refine NoPanic.normal ?_
                    go_wp2
                    go_roundw
                    case rel => exact ⟨j + 1, g, l, c, near, by omega, hkl, rfl, by go_num, HOE.out, Lib.hid (HNX.out), HBE.out⟩
                    case measure => simp [intOf]; omega
                · have hqb : (q == y) = false := by rw [beq_eq_false_iff_ne]; exact fun e => h2 e.symm
                  have HNX := Lib.hid (nearC_skip HNR.out HPQ.out HY.out (fun e => absurd e.symm h1) (fun e => absurd e.symm h2))
                  go_wp2_with fail
                  refine wp_region_noPanic ?_
                  refine wp_region_held_drew (S := (fun w' => (w'.cell? ⟨b, o + j * 2, none⟩ = some (.int .i64 p) ∧ w'.cell? ⟨b, o + j * 2 + 1, none⟩ = some (.int .i64 q)) ∧ w'.cell? ⟨g, k, none⟩ = some (.int .i64 y))) (by kernel_rfl) ?_ (fun hHeld => ?_)
                  · exact HSS.out
                  refine take_val 0 (some 30) (.slice (some ⟨b, o, none⟩) len cap) (by kernel_rfl) (by kernel_rfl) (by kernel_rfl) (fun _ _ _ h => h) ⟨_, rfl, rfl, by rfl, fun w hSw => by go_simp⟩ (by assumption) ?_
                  try simp only [Act.put, List.setIfInBounds_toArray, List.set_cons_zero, List.set_cons_succ]
                  refine take_val 1 (some 31) (.int .i64 j) (by kernel_rfl) (by kernel_rfl) (by kernel_rfl) (fun _ _ _ h => h) ⟨_, rfl, rfl, by rfl, fun w hSw => by go_simp⟩ (by assumption) ?_
                  try simp only [Act.put, List.setIfInBounds_toArray, List.set_cons_zero, List.set_cons_succ]
                  refine take_val 2 (some 32) (.pointer (some ⟨b, o + j * 2, none⟩)) (by kernel_rfl) (by kernel_rfl) (by kernel_rfl) (fun _ _ _ h => h) ⟨_, rfl, rfl, by rfl, fun w hSw => by go_simp⟩ (by assumption) ?_
                  try simp only [Act.put, List.setIfInBounds_toArray, List.set_cons_zero, List.set_cons_succ]
                  refine take_val 3 (some 33) (.pointer (some ⟨b, o + j * 2, none⟩)) (by kernel_rfl) (by kernel_rfl) (by kernel_rfl) (fun _ _ _ h => h) ⟨_, rfl, rfl, by rfl, fun w hSw => by go_simp⟩ (by assumption) ?_
                  try simp only [Act.put, List.setIfInBounds_toArray, List.set_cons_zero, List.set_cons_succ]
                  refine take_val 4 (some 34) (.int .i64 p) (by kernel_rfl) (by kernel_rfl) (by kernel_rfl) (fun _ _ _ h => h) ⟨_, rfl, rfl, by rfl, fun w hSw => by go_simp⟩ (by assumption) ?_
                  try simp only [Act.put, List.setIfInBounds_toArray, List.set_cons_zero, List.set_cons_succ]
                  refine take_val 5 (some 35) (.slice (some ⟨g, 0, none⟩) l c) (by kernel_rfl) (by kernel_rfl) (by kernel_rfl) (fun _ _ _ h => h) ⟨_, rfl, rfl, by rfl, fun w hSw => by go_simp⟩ (by assumption) ?_
                  try simp only [Act.put, List.setIfInBounds_toArray, List.set_cons_zero, List.set_cons_succ]
                  refine take_val 6 (some 36) (.int .i64 k) (by kernel_rfl) (by kernel_rfl) (by kernel_rfl) (fun _ _ _ h => h) ⟨_, rfl, rfl, by rfl, fun w hSw => by go_simp⟩ (by assumption) ?_
                  try simp only [Act.put, List.setIfInBounds_toArray, List.set_cons_zero, List.set_cons_succ]
                  refine take_val 7 (some 37) (.pointer (some ⟨g, k, none⟩)) (by kernel_rfl) (by kernel_rfl) (by kernel_rfl) (fun _ _ _ h => h) ⟨_, rfl, rfl, by rfl, fun w hSw => by go_simp⟩ (by assumption) ?_
                  try simp only [Act.put, List.setIfInBounds_toArray, List.set_cons_zero, List.set_cons_succ]
                  refine take_val 8 (some 38) (.int .i64 y) (by kernel_rfl) (by kernel_rfl) (by kernel_rfl) (fun _ _ _ h => h) ⟨_, rfl, rfl, by rfl, fun w hSw => by go_simp⟩ (by assumption) ?_
                  try simp only [Act.put, List.setIfInBounds_toArray, List.set_cons_zero, List.set_cons_succ]
                  refine take_val 9 (some 39) (.bool false) (by kernel_rfl) (by kernel_rfl) (by kernel_rfl) (fun _ _ _ h => h) ⟨_, rfl, rfl, by rfl, fun w hSw => by go_simp⟩ (by assumption) ?_
                  try simp only [Act.put, List.setIfInBounds_toArray, List.set_cons_zero, List.set_cons_succ]
                  refine take_val 10 (some 40) (.bool false) (by kernel_rfl) (by kernel_rfl) (by kernel_rfl) (fun _ _ _ h => h) ⟨_, rfl, rfl, by rfl, fun w hSw => by go_simp⟩ (by assumption) ?_
                  try simp only [Act.put, List.setIfInBounds_toArray, List.set_cons_zero, List.set_cons_succ]
                  refine take_un 11 (some 41) (by kernel_rfl) (by kernel_rfl) (by kernel_rfl) (fun _ _ _ h => h) ⟨_, rfl, rfl, by rfl⟩ (by assumption) ?_
                  try simp only [Act.put, List.setIfInBounds_toArray, List.set_cons_zero, List.set_cons_succ]
                  refine take_un 12 (some 42) (by kernel_rfl) (by kernel_rfl) (by kernel_rfl) (fun _ _ _ h => h) ⟨_, rfl, rfl, by rfl⟩ (by assumption) ?_
                  try simp only [Act.put, List.setIfInBounds_toArray, List.set_cons_zero, List.set_cons_succ]
                  refine take_un 13 (some 43) (by kernel_rfl) (by kernel_rfl) (by kernel_rfl) (fun _ _ _ h => h) ⟨_, rfl, rfl, by rfl⟩ (by assumption) ?_
                  try simp only [Act.put, List.setIfInBounds_toArray, List.set_cons_zero, List.set_cons_succ]
                  refine take_un 14 (some 44) (by kernel_rfl) (by kernel_rfl) (by kernel_rfl) (fun _ _ _ h => h) ⟨_, rfl, rfl, by rfl⟩ (by assumption) ?_
                  try simp only [Act.put, List.setIfInBounds_toArray, List.set_cons_zero, List.set_cons_succ]
                  refine take_un 15 (some 45) (by kernel_rfl) (by kernel_rfl) (by kernel_rfl) (fun _ _ _ h => h) ⟨_, rfl, rfl, by rfl⟩ (by assumption) ?_
                  try simp only [Act.put, List.setIfInBounds_toArray, List.set_cons_zero, List.set_cons_succ]
                  refine take_un 16 (some 46) (by kernel_rfl) (by kernel_rfl) (by kernel_rfl) (fun _ _ _ h => h) ⟨_, rfl, rfl, by rfl⟩ (by assumption) ?_
                  try simp only [Act.put, List.setIfInBounds_toArray, List.set_cons_zero, List.set_cons_succ]
                  refine take_un 17 (some 47) (by kernel_rfl) (by kernel_rfl) (by kernel_rfl) (fun _ _ _ h => h) ⟨_, rfl, rfl, by rfl⟩ (by assumption) ?_
                  try simp only [Act.put, List.setIfInBounds_toArray, List.set_cons_zero, List.set_cons_succ]
                  refine take_un 18 (some 48) (by kernel_rfl) (by kernel_rfl) (by kernel_rfl) (fun _ _ _ h => h) ⟨_, rfl, rfl, by rfl⟩ (by assumption) ?_
                  try simp only [Act.put, List.setIfInBounds_toArray, List.set_cons_zero, List.set_cons_succ]
                  refine take_val 19 (some 49) (.bool false) (by kernel_rfl) (by kernel_rfl) (by kernel_rfl) (fun _ _ _ h => h) ⟨_, rfl, rfl, by rfl, fun w hSw => by go_simp⟩ (by assumption) ?_
                  try simp only [Act.put, List.setIfInBounds_toArray, List.set_cons_zero, List.set_cons_succ]
                  refine wpAnyH_done (by kernel_rfl) ?_ _
                  refine NoPanic.normal ?_
                  go_wp2_with fail
                  refine wp_region_noPanic ?_
                  refine wp_region_held_drew (S := (fun w' => (w'.cell? ⟨b, o + j * 2, none⟩ = some (.int .i64 p) ∧ w'.cell? ⟨b, o + j * 2 + 1, none⟩ = some (.int .i64 q)) ∧ w'.cell? ⟨g, k, none⟩ = some (.int .i64 y))) (by kernel_rfl) ?_ (fun hHeld => ?_)
                  · exact HSS.out
                  refine take_val 0 (some 58) (.slice (some ⟨b, o, none⟩) len cap) (by kernel_rfl) (by kernel_rfl) (by kernel_rfl) (fun _ _ _ h => h) ⟨_, rfl, rfl, by rfl, fun w hSw => by go_simp⟩ (by assumption) ?_
                  try simp only [Act.put, List.setIfInBounds_toArray, List.set_cons_zero, List.set_cons_succ]
                  refine take_val 1 (some 59) (.int .i64 j) (by kernel_rfl) (by kernel_rfl) (by kernel_rfl) (fun _ _ _ h => h) ⟨_, rfl, rfl, by rfl, fun w hSw => by go_simp⟩ (by assumption) ?_
                  try simp only [Act.put, List.setIfInBounds_toArray, List.set_cons_zero, List.set_cons_succ]
                  refine take_val 2 (some 60) (.pointer (some ⟨b, o + j * 2, none⟩)) (by kernel_rfl) (by kernel_rfl) (by kernel_rfl) (fun _ _ _ h => h) ⟨_, rfl, rfl, by rfl, fun w hSw => by go_simp⟩ (by assumption) ?_
                  try simp only [Act.put, List.setIfInBounds_toArray, List.set_cons_zero, List.set_cons_succ]
                  refine take_val 3 (some 61) (.pointer (some ⟨b, o + j * 2 + 1, none⟩)) (by kernel_rfl) (by kernel_rfl) (by kernel_rfl) (fun _ _ _ h => h) ⟨_, rfl, rfl, by rfl, fun w hSw => by go_simp⟩ (by assumption) ?_
                  try simp only [Act.put, List.setIfInBounds_toArray, List.set_cons_zero, List.set_cons_succ]
                  refine take_val 4 (some 62) (.int .i64 q) (by kernel_rfl) (by kernel_rfl) (by kernel_rfl) (fun _ _ _ h => h) ⟨_, rfl, rfl, by rfl, fun w hSw => by go_simp⟩ (by assumption) ?_
                  try simp only [Act.put, List.setIfInBounds_toArray, List.set_cons_zero, List.set_cons_succ]
                  refine take_val 5 (some 63) (.slice (some ⟨g, 0, none⟩) l c) (by kernel_rfl) (by kernel_rfl) (by kernel_rfl) (fun _ _ _ h => h) ⟨_, rfl, rfl, by rfl, fun w hSw => by go_simp⟩ (by assumption) ?_
                  try simp only [Act.put, List.setIfInBounds_toArray, List.set_cons_zero, List.set_cons_succ]
                  refine take_val 6 (some 64) (.int .i64 k) (by kernel_rfl) (by kernel_rfl) (by kernel_rfl) (fun _ _ _ h => h) ⟨_, rfl, rfl, by rfl, fun w hSw => by go_simp⟩ (by assumption) ?_
                  try simp only [Act.put, List.setIfInBounds_toArray, List.set_cons_zero, List.set_cons_succ]
                  refine take_val 7 (some 65) (.pointer (some ⟨g, k, none⟩)) (by kernel_rfl) (by kernel_rfl) (by kernel_rfl) (fun _ _ _ h => h) ⟨_, rfl, rfl, by rfl, fun w hSw => by go_simp⟩ (by assumption) ?_
                  try simp only [Act.put, List.setIfInBounds_toArray, List.set_cons_zero, List.set_cons_succ]
                  refine take_val 8 (some 66) (.int .i64 y) (by kernel_rfl) (by kernel_rfl) (by kernel_rfl) (fun _ _ _ h => h) ⟨_, rfl, rfl, by rfl, fun w hSw => by go_simp⟩ (by assumption) ?_
                  try simp only [Act.put, List.setIfInBounds_toArray, List.set_cons_zero, List.set_cons_succ]
                  refine take_val 9 (some 67) (.bool false) (by kernel_rfl) (by kernel_rfl) (by kernel_rfl) (fun _ _ _ h => h) ⟨_, rfl, rfl, by rfl, fun w hSw => by go_simp⟩ (by assumption) ?_
                  try simp only [Act.put, List.setIfInBounds_toArray, List.set_cons_zero, List.set_cons_succ]
                  refine take_val 10 (some 68) (.bool false) (by kernel_rfl) (by kernel_rfl) (by kernel_rfl) (fun _ _ _ h => h) ⟨_, rfl, rfl, by rfl, fun w hSw => by go_simp⟩ (by assumption) ?_
                  try simp only [Act.put, List.setIfInBounds_toArray, List.set_cons_zero, List.set_cons_succ]
                  refine take_un 11 (some 69) (by kernel_rfl) (by kernel_rfl) (by kernel_rfl) (fun _ _ _ h => h) ⟨_, rfl, rfl, by rfl⟩ (by assumption) ?_
                  try simp only [Act.put, List.setIfInBounds_toArray, List.set_cons_zero, List.set_cons_succ]
                  refine take_un 12 (some 70) (by kernel_rfl) (by kernel_rfl) (by kernel_rfl) (fun _ _ _ h => h) ⟨_, rfl, rfl, by rfl⟩ (by assumption) ?_
                  try simp only [Act.put, List.setIfInBounds_toArray, List.set_cons_zero, List.set_cons_succ]
                  refine take_un 13 (some 71) (by kernel_rfl) (by kernel_rfl) (by kernel_rfl) (fun _ _ _ h => h) ⟨_, rfl, rfl, by rfl⟩ (by assumption) ?_
                  try simp only [Act.put, List.setIfInBounds_toArray, List.set_cons_zero, List.set_cons_succ]
                  refine take_un 14 (some 72) (by kernel_rfl) (by kernel_rfl) (by kernel_rfl) (fun _ _ _ h => h) ⟨_, rfl, rfl, by rfl⟩ (by assumption) ?_
                  try simp only [Act.put, List.setIfInBounds_toArray, List.set_cons_zero, List.set_cons_succ]
                  refine take_un 15 (some 73) (by kernel_rfl) (by kernel_rfl) (by kernel_rfl) (fun _ _ _ h => h) ⟨_, rfl, rfl, by rfl⟩ (by assumption) ?_
                  try simp only [Act.put, List.setIfInBounds_toArray, List.set_cons_zero, List.set_cons_succ]
                  refine take_un 16 (some 74) (by kernel_rfl) (by kernel_rfl) (by kernel_rfl) (fun _ _ _ h => h) ⟨_, rfl, rfl, by rfl⟩ (by assumption) ?_
                  try simp only [Act.put, List.setIfInBounds_toArray, List.set_cons_zero, List.set_cons_succ]
                  refine take_un 17 (some 75) (by kernel_rfl) (by kernel_rfl) (by kernel_rfl) (fun _ _ _ h => h) ⟨_, rfl, rfl, by rfl⟩ (by assumption) ?_
                  try simp only [Act.put, List.setIfInBounds_toArray, List.set_cons_zero, List.set_cons_succ]
                  refine take_un 18 (some 76) (by kernel_rfl) (by kernel_rfl) (by kernel_rfl) (fun _ _ _ h => h) ⟨_, rfl, rfl, by rfl⟩ (by assumption) ?_
                  try simp only [Act.put, List.setIfInBounds_toArray, List.set_cons_zero, List.set_cons_succ]
                  refine take_val 19 (some 77) (.bool false) (by kernel_rfl) (by kernel_rfl) (by kernel_rfl) (fun _ _ _ h => h) ⟨_, rfl, rfl, by rfl, fun w hSw => by go_simp⟩ (by assumption) ?_
                  try simp only [Act.put, List.setIfInBounds_toArray, List.set_cons_zero, List.set_cons_succ]
                  refine wpAnyH_done (by kernel_rfl) ?_ _
                  refine NoPanic.normal ?_
                  go_wp2
                  go_roundw
                  case rel => exact ⟨j + 1, g, l, c, near, by omega, hkl, rfl, by go_num, HOE.out, Lib.hid (HNX.out), HBE.out⟩
                  case measure => simp [intOf]; omega
            · obtain rfl : j = i := by omega
              clear ho hb hnl
              go_wp2
              go_roundw
              case rel => exact ⟨k + 1, g, l, c, near, by omega, rfl, by go_num, HO.out, Lib.hid (nearC_row (by rw [HML.out]; exact HNR.out)), HB.out⟩
              case measure => simp [intOf]; omega
        · obtain rfl : k = l := by omega
          have t1 := (hb.cell (p := ⟨b, o + i * 2 + 1, none⟩) hb0).trans T1.out
          have HAL := Lib.hid (nearC_all (x := t) (by rw [hnl]; exact HNR.out : NearC ms x near near.length 0))
          clear ho hb hnl
          cases hh : hasB near t
          · have HH := Lib.hid hh
            have HN : Hid (¬ closesAt ls i) := Lib.hid (fun h => of_decide_eq_false hh (HAL.out.2 (HCL.out.1 h)))
            clear hh
            go_wp2_with (go_at_call 42; refine (has_any _ _ _ _ near t (by omega) HO.out.sees).mono ?_; rw [HH.out]; rintro e w' ⟨rfl, rfl⟩)
            go_roundw
            case rel => exact ⟨i + 1, by omega, by go_num, Lib.hid (next_allC HR.out HN.out), HB.out⟩
            case measure => simp [intOf]; omega
          · have HH := Lib.hid hh
            have HE := Lib.hid (HV.out.trans (circV_yes (i := i) (by rw [HL.out]; exact hlt) (HCL.out.2 (HAL.out.1 (of_decide_eq_true hh)))))
            clear hh
            go_wp2_with (go_at_call 42; refine (has_any _ _ _ _ near t (by omega) HO.out.sees).mono ?_; rw [HH.out]; rintro e w' ⟨rfl, rfl⟩)
            go_ret
            exact ⟨ret_boolC HE.out.symm, HB.out⟩
    · obtain rfl : i = len := by omega
      have HE := Lib.hid (HV.out.trans (circV_no (fun j hj => HR.out j (by rw [← HL.out]; exact hj))))
      clear hb
      go_wp2
      go_ret
      exact ⟨ret_boolC HE.out.symm, HB.out⟩
end Go.Proofs.Ytbjjgcfmdlinaaa
