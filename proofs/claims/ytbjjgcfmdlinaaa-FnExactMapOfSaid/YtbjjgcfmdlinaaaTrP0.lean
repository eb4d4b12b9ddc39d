/- l13Put, the model's: a link is put into its place. -/
import Derived.Test.YtbjjgcfmdlinaaaTrF
import Derived.Test.YtbjjgcfmdlinaaaLkA
import Derived.Test.YtbjjgcfmdlinaaaPair
import Derived.Test.YtbjjgcfmdlinaaaTake
namespace Go.Proofs.Ytbjjgcfmdlinaaa
open Go.RowKit
/-- What a call leaves that puts a link into an own list. -/
def PutL (lo : Nat) (ys : List (Int × Int)) (W : World) (e : Ending) (w' : World) : Prop := ∃ g len cap, e = .returned (.slice (some ⟨g, 0, none⟩) len cap) ∧ OwnL w' lo w'.heap.size (some ⟨g, 0, none⟩) len cap ys ∧ Below W.heap.size W w'
theorem putL_new {x : Int × Int} {xs : List (Int × Int)} {k : Nat} (hk : k ≤ xs.length) (h1 : ∀ r, r < k → ltL (xs.getD r (0, 0)) x = true) (h2 : k < xs.length → ltL (xs.getD k (0, 0)) x = false ∧ xs.getD k (0, 0) ≠ x) : xs.take k ++ [x] ++ xs.drop k = putL x xs := by
  rw [putL_at hk h1 (fun h => (h2 h).1), if_neg (fun h => (h2 h.1).2 h.2)]
theorem putL_same {x : Int × Int} {xs : List (Int × Int)} {k : Nat} (hk : k < xs.length) (h1 : ∀ r, r < k → ltL (xs.getD r (0, 0)) x = true) (h2 : ltL (xs.getD k (0, 0)) x = false) (h3 : xs.getD k (0, 0) = x) : putL x xs = xs := by
  rw [putL_at (Nat.le_of_lt hk) h1 (fun _ => h2), if_pos ⟨hk, h3⟩]
theorem next_allP {P : Nat → Prop} {k : Nat} (h : ∀ j, j < k → P j) (h1 : P k) : ∀ j, j < k + 1 → P j := fun j hj => by
  rcases Nat.lt_or_eq_of_le (Nat.lt_succ_iff.1 hj) with h2 | h2
  · exact h j h2
  · rw [h2]; exact h1
set_option maxRecDepth 20000 in
set_option maxHeartbeats 12800000 in
theorem specPut_any (W : World) (lo hi' g len cap : Nat) (xs : List (Int × Int)) (x1 x2 : Int) (hl : len ≤ 1048575) (ho : OwnL W lo hi' (some ⟨g, 0, none⟩) len cap xs) (hlo : lo ≤ W.heap.size) (hw1 : (Lit.int .i64 x1).wf = true) (hw2 : (Lit.int .i64 x2).wf = true) :
    Calls Try.prog 54 #[.slice (some ⟨g, 0, none⟩) len cap, .agg #[.int .i64 x1, .int .i64 x2]] W (PutL lo (putL (x1, x2) xs) W) := by
  obtain ⟨V, hV⟩ : ∃ V, V = W.alloc (.cells #[.int .i64 x1, .int .i64 x2] 38) := ⟨_, rfl⟩
  have HBV := Lib.hid (show Below W.heap.size W V by rw [hV]; exact (Below.refl _ _).alloc (Nat.le_refl _) _)
  have hzV : V.heap.size = W.heap.size + 1 := by rw [hV]; simp
  have HP := Lib.hid (show PairAt V W.heap.size x1 x2 by rw [hV]; exact pair_new _ _ _ _)
  have HO := Lib.hid (ho.below HBV.out)
  have HL := Lib.hid ho.1
  have HCAP := Lib.hid ho.room.1
  have HW1 := Lib.hid hw1
  have HW2 := Lib.hid hw2
  have hgW : g < W.heap.size := Nat.lt_of_lt_of_le (ho.2.2.2.2 _ rfl).2 ho.2.2.1
  clear ho hw1 hw2
  obtain ⟨i0, hi, hz0, hz1, hz2⟩ := info_parts info_link
  go_enter Try.func54, Try.ntmps54
  go_wp2_with fail
  rw [← hV]
  clear hV
  go_wp2_with fail
  go_loopw [5] (fun s wr => ∃ k : Nat, k ≤ len ∧ s = .int .i64 k ∧ Hid (∀ r, r < k → ltL (xs.getD r (0, 0)) (x1, x2) = true) ∧ Below V.heap.size V wr) (fun s _ => len - (intOf s).toNat)
  case atStart => exact ⟨0, Nat.zero_le _, rfl, Lib.hid (fun r hr => absurd hr (Nat.not_lt_zero _)), Below.refl _ _⟩
  case round =>
    obtain ⟨k, hk, rfl, HR, hb⟩ := hrel
    obtain ⟨U, rfl⟩ : ∃ U, U = wr := ⟨_, rfl⟩
    have HBU := Lib.hid hb
    have HPU := Lib.hid (HP.out.below hb)
    have c0 := HPU.out.c0
    have c1 := HPU.out.c1
    have HBUD := Lib.hid (show Below V.heap.size V U.drew from hb.drew)
    by_cases hlt : k < len
    · have hkx : k < xs.length := by rw [HL.out]; exact hlt
      obtain ⟨y1, y2, hy⟩ : ∃ y1 y2, xs.getD k (0, 0) = (y1, y2) := ⟨_, _, rfl⟩
      obtain ⟨q0, q1, _⟩ := (HO.out.below hb).spotAt k hlt
      rw [hy] at q0 q1
      have HY := Lib.hid hy
      have HSS := Lib.hid (show (U.cell? ⟨W.heap.size, 0, none⟩ = some (.int .i64 x1) ∧ U.cell? ⟨W.heap.size, 1, none⟩ = some (.int .i64 x2)) ∧ (U.cell? ⟨g, k * 2, none⟩ = some (.int .i64 y1) ∧ U.cell? ⟨g, k * 2 + 1, none⟩ = some (.int .i64 y2)) from ⟨⟨c0, c1⟩, q0, q1⟩)
      have HSD := Lib.hid (show (U.drew.cell? ⟨W.heap.size, 0, none⟩ = some (.int .i64 x1) ∧ U.drew.cell? ⟨W.heap.size, 1, none⟩ = some (.int .i64 x2)) ∧ (U.drew.cell? ⟨g, k * 2, none⟩ = some (.int .i64 y1) ∧ U.drew.cell? ⟨g, k * 2 + 1, none⟩ = some (.int .i64 y2)) from ⟨⟨c0, c1⟩, q0, q1⟩)
      have hki0 : (0 : Int) ≤ (k : Int) := by omega
      have hki1 : (k : Int) < (len : Int) := by omega
      clear hy hb c0 c1 q0 q1
      by_cases h1 : y1 < x1
      · have HLT : Hid (ltL (xs.getD k (0, 0)) (x1, x2) = true) := Lib.hid (by rw [HY.out]; unfold ltL; simp [h1])
        go_wp2_with fail
        refine wp_region_noPanic ?_
        refine wp_region_held_drew (S := (fun w' => (w'.cell? ⟨W.heap.size, 0, none⟩ = some (.int .i64 x1) ∧ w'.cell? ⟨W.heap.size, 1, none⟩ = some (.int .i64 x2)) ∧ (w'.cell? ⟨g, k * 2, none⟩ = some (.int .i64 y1) ∧ w'.cell? ⟨g, k * 2 + 1, none⟩ = some (.int .i64 y2)))) (by kernel_rfl) ?_ (fun hHeld => ?_)
        · rw [World.cell?_drew, World.cell?_drew, World.cell?_drew, World.cell?_drew]; exact HSS.out
        refine take_val 0 (some 6) (.int .i64 k) (by kernel_rfl) (by kernel_rfl) (by kernel_rfl) (fun _ _ _ h => h) ⟨_, rfl, rfl, by rfl, fun w hSw => by go_simp⟩ (by assumption) ?_
        try simp only [Act.put, List.setIfInBounds_toArray, List.set_cons_zero, List.set_cons_succ]
        refine take_val 1 (some 7) (.slice (some ⟨g, 0, none⟩) len cap) (by kernel_rfl) (by kernel_rfl) (by kernel_rfl) (fun _ _ _ h => h) ⟨_, rfl, rfl, by rfl, fun w hSw => by go_simp⟩ (by assumption) ?_
        try simp only [Act.put, List.setIfInBounds_toArray, List.set_cons_zero, List.set_cons_succ]
        refine take_val 2 (some 8) (.int .i64 len) (by kernel_rfl) (by kernel_rfl) (by kernel_rfl) (fun _ _ _ h => h) ⟨_, rfl, rfl, by rfl, fun w hSw => by go_simp⟩ (by assumption) ?_
        try simp only [Act.put, List.setIfInBounds_toArray, List.set_cons_zero, List.set_cons_succ]
        refine take_val 3 (some 9) (.bool true) (by kernel_rfl) (by kernel_rfl) (by kernel_rfl) (fun _ _ _ h => h) ⟨_, rfl, rfl, by rfl, fun w hSw => by go_simp⟩ (by assumption) ?_
        try simp only [Act.put, List.setIfInBounds_toArray, List.set_cons_zero, List.set_cons_succ]
        refine take_val 4 (some 10) (.bool true) (by kernel_rfl) (by kernel_rfl) (by kernel_rfl) (fun _ _ _ h => h) ⟨_, rfl, rfl, by rfl, fun w hSw => by go_simp⟩ (by assumption) ?_
        try simp only [Act.put, List.setIfInBounds_toArray, List.set_cons_zero, List.set_cons_succ]
        refine take_val 5 (some 11) (.slice (some ⟨g, 0, none⟩) len cap) (by kernel_rfl) (by kernel_rfl) (by kernel_rfl) (fun _ _ _ h => h) ⟨_, rfl, rfl, by rfl, fun w hSw => by go_simp⟩ (by assumption) ?_
        try simp only [Act.put, List.setIfInBounds_toArray, List.set_cons_zero, List.set_cons_succ]
        refine take_val 6 (some 12) (.int .i64 k) (by kernel_rfl) (by kernel_rfl) (by kernel_rfl) (fun _ _ _ h => h) ⟨_, rfl, rfl, by rfl, fun w hSw => by go_simp⟩ (by assumption) ?_
        try simp only [Act.put, List.setIfInBounds_toArray, List.set_cons_zero, List.set_cons_succ]
        refine take_val 7 (some 13) (.pointer (some ⟨g, k * 2, none⟩)) (by kernel_rfl) (by kernel_rfl) (by kernel_rfl) (fun _ _ _ h => h) ⟨_, rfl, rfl, by rfl, fun w hSw => by go_simp⟩ (by assumption) ?_
        try simp only [Act.put, List.setIfInBounds_toArray, List.set_cons_zero, List.set_cons_succ]
        refine take_val 8 (some 14) (.pointer (some ⟨g, k * 2, none⟩)) (by kernel_rfl) (by kernel_rfl) (by kernel_rfl) (fun _ _ _ h => h) ⟨_, rfl, rfl, by rfl, fun w hSw => by go_simp⟩ (by assumption) ?_
        try simp only [Act.put, List.setIfInBounds_toArray, List.set_cons_zero, List.set_cons_succ]
        refine take_val 9 (some 15) (.int .i64 y1) (by kernel_rfl) (by kernel_rfl) (by kernel_rfl) (fun _ _ _ h => h) ⟨_, rfl, rfl, by rfl, fun w hSw => by go_simp⟩ (by assumption) ?_
        try simp only [Act.put, List.setIfInBounds_toArray, List.set_cons_zero, List.set_cons_succ]
        refine take_val 10 (some 16) (.pointer (some ⟨W.heap.size, 0, none⟩)) (by kernel_rfl) (by kernel_rfl) (by kernel_rfl) (fun _ _ _ h => h) ⟨_, rfl, rfl, by rfl, fun w hSw => by go_simp⟩ (by assumption) ?_
        try simp only [Act.put, List.setIfInBounds_toArray, List.set_cons_zero, List.set_cons_succ]
        refine take_val 11 (some 17) (.int .i64 x1) (by kernel_rfl) (by kernel_rfl) (by kernel_rfl) (fun _ _ _ h => h) ⟨_, rfl, rfl, by rfl, fun w hSw => by go_simp⟩ (by assumption) ?_
        try simp only [Act.put, List.setIfInBounds_toArray, List.set_cons_zero, List.set_cons_succ]
        refine take_val 12 (some 18) (.bool true) (by kernel_rfl) (by kernel_rfl) (by kernel_rfl) (fun _ _ _ h => h) ⟨_, rfl, rfl, by rfl, fun w hSw => by go_simp⟩ (by assumption) ?_
        try simp only [Act.put, List.setIfInBounds_toArray, List.set_cons_zero, List.set_cons_succ]
        refine take_val 13 (some 19) (.bool true) (by kernel_rfl) (by kernel_rfl) (by kernel_rfl) (fun _ _ _ h => h) ⟨_, rfl, rfl, by rfl, fun w hSw => by go_simp⟩ (by assumption) ?_
        try simp only [Act.put, List.setIfInBounds_toArray, List.set_cons_zero, List.set_cons_succ]
        refine take_un 14 (some 20) (by kernel_rfl) (by kernel_rfl) (by kernel_rfl) (fun _ _ _ h => h) ⟨_, rfl, rfl, by rfl⟩ (by assumption) ?_
        try simp only [Act.put, List.setIfInBounds_toArray, List.set_cons_zero, List.set_cons_succ]
        refine take_un 15 (some 21) (by kernel_rfl) (by kernel_rfl) (by kernel_rfl) (fun _ _ _ h => h) ⟨_, rfl, rfl, by rfl⟩ (by assumption) ?_
        try simp only [Act.put, List.setIfInBounds_toArray, List.set_cons_zero, List.set_cons_succ]
        refine take_un 16 (some 22) (by kernel_rfl) (by kernel_rfl) (by kernel_rfl) (fun _ _ _ h => h) ⟨_, rfl, rfl, by rfl⟩ (by assumption) ?_
        try simp only [Act.put, List.setIfInBounds_toArray, List.set_cons_zero, List.set_cons_succ]
        refine take_un 17 (some 23) (by kernel_rfl) (by kernel_rfl) (by kernel_rfl) (fun _ _ _ h => h) ⟨_, rfl, rfl, by rfl⟩ (by assumption) ?_
        try simp only [Act.put, List.setIfInBounds_toArray, List.set_cons_zero, List.set_cons_succ]
        refine take_un 18 (some 24) (by kernel_rfl) (by kernel_rfl) (by kernel_rfl) (fun _ _ _ h => h) ⟨_, rfl, rfl, by rfl⟩ (by assumption) ?_
        try simp only [Act.put, List.setIfInBounds_toArray, List.set_cons_zero, List.set_cons_succ]
        refine take_un 19 (some 25) (by kernel_rfl) (by kernel_rfl) (by kernel_rfl) (fun _ _ _ h => h) ⟨_, rfl, rfl, by rfl⟩ (by assumption) ?_
        try simp only [Act.put, List.setIfInBounds_toArray, List.set_cons_zero, List.set_cons_succ]
        refine take_un 20 (some 26) (by kernel_rfl) (by kernel_rfl) (by kernel_rfl) (fun _ _ _ h => h) ⟨_, rfl, rfl, by rfl⟩ (by assumption) ?_
        try simp only [Act.put, List.setIfInBounds_toArray, List.set_cons_zero, List.set_cons_succ]
        refine take_un 21 (some 27) (by kernel_rfl) (by kernel_rfl) (by kernel_rfl) (fun _ _ _ h => h) ⟨_, rfl, rfl, by rfl⟩ (by assumption) ?_
        try simp only [Act.put, List.setIfInBounds_toArray, List.set_cons_zero, List.set_cons_succ]
        refine take_un 22 (some 28) (by kernel_rfl) (by kernel_rfl) (by kernel_rfl) (fun _ _ _ h => h) ⟨_, rfl, rfl, by rfl⟩ (by assumption) ?_
        try simp only [Act.put, List.setIfInBounds_toArray, List.set_cons_zero, List.set_cons_succ]
        refine take_un 23 (some 29) (by kernel_rfl) (by kernel_rfl) (by kernel_rfl) (fun _ _ _ h => h) ⟨_, rfl, rfl, by rfl⟩ (by assumption) ?_
        try simp only [Act.put, List.setIfInBounds_toArray, List.set_cons_zero, List.set_cons_succ]
        refine take_un 24 (some 30) (by kernel_rfl) (by kernel_rfl) (by kernel_rfl) (fun _ _ _ h => h) ⟨_, rfl, rfl, by rfl⟩ (by assumption) ?_
        try simp only [Act.put, List.setIfInBounds_toArray, List.set_cons_zero, List.set_cons_succ]
        refine take_un 25 (some 31) (by kernel_rfl) (by kernel_rfl) (by kernel_rfl) (fun _ _ _ h => h) ⟨_, rfl, rfl, by rfl⟩ (by assumption) ?_
        try simp only [Act.put, List.setIfInBounds_toArray, List.set_cons_zero, List.set_cons_succ]
        refine take_un 26 (some 32) (by kernel_rfl) (by kernel_rfl) (by kernel_rfl) (fun _ _ _ h => h) ⟨_, rfl, rfl, by rfl⟩ (by assumption) ?_
        try simp only [Act.put, List.setIfInBounds_toArray, List.set_cons_zero, List.set_cons_succ]
        refine take_un 27 (some 33) (by kernel_rfl) (by kernel_rfl) (by kernel_rfl) (fun _ _ _ h => h) ⟨_, rfl, rfl, by rfl⟩ (by assumption) ?_
        try simp only [Act.put, List.setIfInBounds_toArray, List.set_cons_zero, List.set_cons_succ]
        refine take_un 28 (some 34) (by kernel_rfl) (by kernel_rfl) (by kernel_rfl) (fun _ _ _ h => h) ⟨_, rfl, rfl, by rfl⟩ (by assumption) ?_
        try simp only [Act.put, List.setIfInBounds_toArray, List.set_cons_zero, List.set_cons_succ]
        refine take_un 29 (some 35) (by kernel_rfl) (by kernel_rfl) (by kernel_rfl) (fun _ _ _ h => h) ⟨_, rfl, rfl, by rfl⟩ (by assumption) ?_
        try simp only [Act.put, List.setIfInBounds_toArray, List.set_cons_zero, List.set_cons_succ]
        refine take_un 30 (some 36) (by kernel_rfl) (by kernel_rfl) (by kernel_rfl) (fun _ _ _ h => h) ⟨_, rfl, rfl, by rfl⟩ (by assumption) ?_
        try simp only [Act.put, List.setIfInBounds_toArray, List.set_cons_zero, List.set_cons_succ]
        refine take_un 31 (some 37) (by kernel_rfl) (by kernel_rfl) (by kernel_rfl) (fun _ _ _ h => h) ⟨_, rfl, rfl, by rfl⟩ (by assumption) ?_
        try simp only [Act.put, List.setIfInBounds_toArray, List.set_cons_zero, List.set_cons_succ]
        refine take_val 32 (some 38) (.bool true) (by kernel_rfl) (by kernel_rfl) (by kernel_rfl) (fun _ _ _ h => h) ⟨_, rfl, rfl, by rfl, fun w hSw => by go_simp⟩ (by assumption) ?_
        try simp only [Act.put, List.setIfInBounds_toArray, List.set_cons_zero, List.set_cons_succ]
        refine take_val 33 (some 39) (.bool true) (by kernel_rfl) (by kernel_rfl) (by kernel_rfl) (fun _ _ _ h => h) ⟨_, rfl, rfl, by rfl, fun w hSw => by go_simp⟩ (by assumption) ?_
        try simp only [Act.put, List.setIfInBounds_toArray, List.set_cons_zero, List.set_cons_succ]
        refine wpAnyH_done (by kernel_rfl) ?_ _
        refine NoPanic.normal ?_
        go_wp2
        go_roundw
        case rel => exact ⟨k + 1, hlt, by go_num, Lib.hid (next_allP HR.out HLT.out), HBUD.out⟩
        case measure => simp [intOf]; omega
      · by_cases h2 : y1 = x1
        · subst h2
          by_cases h3 : y2 < x2
          · have HLT : Hid (ltL (xs.getD k (0, 0)) (y1, x2) = true) := Lib.hid (by rw [HY.out]; unfold ltL; simp [h3])
            go_wp2_with fail
            refine wp_region_noPanic ?_
            refine wp_region_held_drew (S := (fun w' => (w'.cell? ⟨W.heap.size, 0, none⟩ = some (.int .i64 y1) ∧ w'.cell? ⟨W.heap.size, 1, none⟩ = some (.int .i64 x2)) ∧ (w'.cell? ⟨g, k * 2, none⟩ = some (.int .i64 y1) ∧ w'.cell? ⟨g, k * 2 + 1, none⟩ = some (.int .i64 y2)))) (by kernel_rfl) ?_ (fun hHeld => ?_)
            · rw [World.cell?_drew, World.cell?_drew, World.cell?_drew, World.cell?_drew]; exact HSS.out
            refine take_val 0 (some 6) (.int .i64 k) (by kernel_rfl) (by kernel_rfl) (by kernel_rfl) (fun _ _ _ h => h) ⟨_, rfl, rfl, by rfl, fun w hSw => by go_simp⟩ (by assumption) ?_
            try simp only [Act.put, List.setIfInBounds_toArray, List.set_cons_zero, List.set_cons_succ]
            refine take_val 1 (some 7) (.slice (some ⟨g, 0, none⟩) len cap) (by kernel_rfl) (by kernel_rfl) (by kernel_rfl) (fun _ _ _ h => h) ⟨_, rfl, rfl, by rfl, fun w hSw => by go_simp⟩ (by assumption) ?_
            try simp only [Act.put, List.setIfInBounds_toArray, List.set_cons_zero, List.set_cons_succ]
            refine take_val 2 (some 8) (.int .i64 len) (by kernel_rfl) (by kernel_rfl) (by kernel_rfl) (fun _ _ _ h => h) ⟨_, rfl, rfl, by rfl, fun w hSw => by go_simp⟩ (by assumption) ?_
            try simp only [Act.put, List.setIfInBounds_toArray, List.set_cons_zero, List.set_cons_succ]
            refine take_val 3 (some 9) (.bool true) (by kernel_rfl) (by kernel_rfl) (by kernel_rfl) (fun _ _ _ h => h) ⟨_, rfl, rfl, by rfl, fun w hSw => by go_simp⟩ (by assumption) ?_
            try simp only [Act.put, List.setIfInBounds_toArray, List.set_cons_zero, List.set_cons_succ]
            refine take_val 4 (some 10) (.bool true) (by kernel_rfl) (by kernel_rfl) (by kernel_rfl) (fun _ _ _ h => h) ⟨_, rfl, rfl, by rfl, fun w hSw => by go_simp⟩ (by assumption) ?_
            try simp only [Act.put, List.setIfInBounds_toArray, List.set_cons_zero, List.set_cons_succ]
            refine take_val 5 (some 11) (.slice (some ⟨g, 0, none⟩) len cap) (by kernel_rfl) (by kernel_rfl) (by kernel_rfl) (fun _ _ _ h => h) ⟨_, rfl, rfl, by rfl, fun w hSw => by go_simp⟩ (by assumption) ?_
            try simp only [Act.put, List.setIfInBounds_toArray, List.set_cons_zero, List.set_cons_succ]
            refine take_val 6 (some 12) (.int .i64 k) (by kernel_rfl) (by kernel_rfl) (by kernel_rfl) (fun _ _ _ h => h) ⟨_, rfl, rfl, by rfl, fun w hSw => by go_simp⟩ (by assumption) ?_
            try simp only [Act.put, List.setIfInBounds_toArray, List.set_cons_zero, List.set_cons_succ]
            refine take_val 7 (some 13) (.pointer (some ⟨g, k * 2, none⟩)) (by kernel_rfl) (by kernel_rfl) (by kernel_rfl) (fun _ _ _ h => h) ⟨_, rfl, rfl, by rfl, fun w hSw => by go_simp⟩ (by assumption) ?_
            try simp only [Act.put, List.setIfInBounds_toArray, List.set_cons_zero, List.set_cons_succ]
            refine take_val 8 (some 14) (.pointer (some ⟨g, k * 2, none⟩)) (by kernel_rfl) (by kernel_rfl) (by kernel_rfl) (fun _ _ _ h => h) ⟨_, rfl, rfl, by rfl, fun w hSw => by go_simp⟩ (by assumption) ?_
            try simp only [Act.put, List.setIfInBounds_toArray, List.set_cons_zero, List.set_cons_succ]
            refine take_val 9 (some 15) (.int .i64 y1) (by kernel_rfl) (by kernel_rfl) (by kernel_rfl) (fun _ _ _ h => h) ⟨_, rfl, rfl, by rfl, fun w hSw => by go_simp⟩ (by assumption) ?_
            try simp only [Act.put, List.setIfInBounds_toArray, List.set_cons_zero, List.set_cons_succ]
            refine take_val 10 (some 16) (.pointer (some ⟨W.heap.size, 0, none⟩)) (by kernel_rfl) (by kernel_rfl) (by kernel_rfl) (fun _ _ _ h => h) ⟨_, rfl, rfl, by rfl, fun w hSw => by go_simp⟩ (by assumption) ?_
            try simp only [Act.put, List.setIfInBounds_toArray, List.set_cons_zero, List.set_cons_succ]
            refine take_val 11 (some 17) (.int .i64 y1) (by kernel_rfl) (by kernel_rfl) (by kernel_rfl) (fun _ _ _ h => h) ⟨_, rfl, rfl, by rfl, fun w hSw => by go_simp⟩ (by assumption) ?_
            try simp only [Act.put, List.setIfInBounds_toArray, List.set_cons_zero, List.set_cons_succ]
            refine take_val 12 (some 18) (.bool false) (by kernel_rfl) (by kernel_rfl) (by kernel_rfl) (fun _ _ _ h => h) ⟨_, rfl, rfl, by rfl, fun w hSw => by go_simp⟩ (by assumption) ?_
            try simp only [Act.put, List.setIfInBounds_toArray, List.set_cons_zero, List.set_cons_succ]
            refine take_val 13 (some 19) (.bool false) (by kernel_rfl) (by kernel_rfl) (by kernel_rfl) (fun _ _ _ h => h) ⟨_, rfl, rfl, by rfl, fun w hSw => by go_simp⟩ (by assumption) ?_
            try simp only [Act.put, List.setIfInBounds_toArray, List.set_cons_zero, List.set_cons_succ]
            refine take_val 14 (some 20) (.slice (some ⟨g, 0, none⟩) len cap) (by kernel_rfl) (by kernel_rfl) (by kernel_rfl) (fun _ _ _ h => h) ⟨_, rfl, rfl, by rfl, fun w hSw => by go_simp⟩ (by assumption) ?_
            try simp only [Act.put, List.setIfInBounds_toArray, List.set_cons_zero, List.set_cons_succ]
            refine take_val 15 (some 21) (.int .i64 k) (by kernel_rfl) (by kernel_rfl) (by kernel_rfl) (fun _ _ _ h => h) ⟨_, rfl, rfl, by rfl, fun w hSw => by go_simp⟩ (by assumption) ?_
            try simp only [Act.put, List.setIfInBounds_toArray, List.set_cons_zero, List.set_cons_succ]
            refine take_val 16 (some 22) (.pointer (some ⟨g, k * 2, none⟩)) (by kernel_rfl) (by kernel_rfl) (by kernel_rfl) (fun _ _ _ h => h) ⟨_, rfl, rfl, by rfl, fun w hSw => by go_simp⟩ (by assumption) ?_
            try simp only [Act.put, List.setIfInBounds_toArray, List.set_cons_zero, List.set_cons_succ]
            refine take_val 17 (some 23) (.pointer (some ⟨g, k * 2, none⟩)) (by kernel_rfl) (by kernel_rfl) (by kernel_rfl) (fun _ _ _ h => h) ⟨_, rfl, rfl, by rfl, fun w hSw => by go_simp⟩ (by assumption) ?_
            try simp only [Act.put, List.setIfInBounds_toArray, List.set_cons_zero, List.set_cons_succ]
            refine take_val 18 (some 24) (.int .i64 y1) (by kernel_rfl) (by kernel_rfl) (by kernel_rfl) (fun _ _ _ h => h) ⟨_, rfl, rfl, by rfl, fun w hSw => by go_simp⟩ (by assumption) ?_
            try simp only [Act.put, List.setIfInBounds_toArray, List.set_cons_zero, List.set_cons_succ]
            refine take_val 19 (some 25) (.pointer (some ⟨W.heap.size, 0, none⟩)) (by kernel_rfl) (by kernel_rfl) (by kernel_rfl) (fun _ _ _ h => h) ⟨_, rfl, rfl, by rfl, fun w hSw => by go_simp⟩ (by assumption) ?_
            try simp only [Act.put, List.setIfInBounds_toArray, List.set_cons_zero, List.set_cons_succ]
            refine take_val 20 (some 26) (.int .i64 y1) (by kernel_rfl) (by kernel_rfl) (by kernel_rfl) (fun _ _ _ h => h) ⟨_, rfl, rfl, by rfl, fun w hSw => by go_simp⟩ (by assumption) ?_
            try simp only [Act.put, List.setIfInBounds_toArray, List.set_cons_zero, List.set_cons_succ]
            refine take_val 21 (some 27) (.bool true) (by kernel_rfl) (by kernel_rfl) (by kernel_rfl) (fun _ _ _ h => h) ⟨_, rfl, rfl, by rfl, fun w hSw => by go_simp⟩ (by assumption) ?_
            try simp only [Act.put, List.setIfInBounds_toArray, List.set_cons_zero, List.set_cons_succ]
            refine take_val 22 (some 28) (.bool true) (by kernel_rfl) (by kernel_rfl) (by kernel_rfl) (fun _ _ _ h => h) ⟨_, rfl, rfl, by rfl, fun w hSw => by go_simp⟩ (by assumption) ?_
            try simp only [Act.put, List.setIfInBounds_toArray, List.set_cons_zero, List.set_cons_succ]
            refine take_val 23 (some 29) (.slice (some ⟨g, 0, none⟩) len cap) (by kernel_rfl) (by kernel_rfl) (by kernel_rfl) (fun _ _ _ h => h) ⟨_, rfl, rfl, by rfl, fun w hSw => by go_simp⟩ (by assumption) ?_
            try simp only [Act.put, List.setIfInBounds_toArray, List.set_cons_zero, List.set_cons_succ]
            refine take_val 24 (some 30) (.int .i64 k) (by kernel_rfl) (by kernel_rfl) (by kernel_rfl) (fun _ _ _ h => h) ⟨_, rfl, rfl, by rfl, fun w hSw => by go_simp⟩ (by assumption) ?_
            try simp only [Act.put, List.setIfInBounds_toArray, List.set_cons_zero, List.set_cons_succ]
            refine take_val 25 (some 31) (.pointer (some ⟨g, k * 2, none⟩)) (by kernel_rfl) (by kernel_rfl) (by kernel_rfl) (fun _ _ _ h => h) ⟨_, rfl, rfl, by rfl, fun w hSw => by go_simp⟩ (by assumption) ?_
            try simp only [Act.put, List.setIfInBounds_toArray, List.set_cons_zero, List.set_cons_succ]
            refine take_val 26 (some 32) (.pointer (some ⟨g, k * 2 + 1, none⟩)) (by kernel_rfl) (by kernel_rfl) (by kernel_rfl) (fun _ _ _ h => h) ⟨_, rfl, rfl, by rfl, fun w hSw => by go_simp⟩ (by assumption) ?_
            try simp only [Act.put, List.setIfInBounds_toArray, List.set_cons_zero, List.set_cons_succ]
            refine take_val 27 (some 33) (.int .i64 y2) (by kernel_rfl) (by kernel_rfl) (by kernel_rfl) (fun _ _ _ h => h) ⟨_, rfl, rfl, by rfl, fun w hSw => by go_simp⟩ (by assumption) ?_
            try simp only [Act.put, List.setIfInBounds_toArray, List.set_cons_zero, List.set_cons_succ]
            refine take_val 28 (some 34) (.pointer (some ⟨W.heap.size, 1, none⟩)) (by kernel_rfl) (by kernel_rfl) (by kernel_rfl) (fun _ _ _ h => h) ⟨_, rfl, rfl, by rfl, fun w hSw => by go_simp⟩ (by assumption) ?_
            try simp only [Act.put, List.setIfInBounds_toArray, List.set_cons_zero, List.set_cons_succ]
            refine take_val 29 (some 35) (.int .i64 x2) (by kernel_rfl) (by kernel_rfl) (by kernel_rfl) (fun _ _ _ h => h) ⟨_, rfl, rfl, by rfl, fun w hSw => by go_simp⟩ (by assumption) ?_
            try simp only [Act.put, List.setIfInBounds_toArray, List.set_cons_zero, List.set_cons_succ]
            refine take_val 30 (some 36) (.bool true) (by kernel_rfl) (by kernel_rfl) (by kernel_rfl) (fun _ _ _ h => h) ⟨_, rfl, rfl, by rfl, fun w hSw => by go_simp⟩ (by assumption) ?_
            try simp only [Act.put, List.setIfInBounds_toArray, List.set_cons_zero, List.set_cons_succ]
            refine take_val 31 (some 37) (.bool true) (by kernel_rfl) (by kernel_rfl) (by kernel_rfl) (fun _ _ _ h => h) ⟨_, rfl, rfl, by rfl, fun w hSw => by go_simp⟩ (by assumption) ?_
            try simp only [Act.put, List.setIfInBounds_toArray, List.set_cons_zero, List.set_cons_succ]
            refine take_val 32 (some 38) (.bool true) (by kernel_rfl) (by kernel_rfl) (by kernel_rfl) (fun _ _ _ h => h) ⟨_, rfl, rfl, by rfl, fun w hSw => by go_simp⟩ (by assumption) ?_
            try simp only [Act.put, List.setIfInBounds_toArray, List.set_cons_zero, List.set_cons_succ]
            refine take_val 33 (some 39) (.bool true) (by kernel_rfl) (by kernel_rfl) (by kernel_rfl) (fun _ _ _ h => h) ⟨_, rfl, rfl, by rfl, fun w hSw => by go_simp⟩ (by assumption) ?_
            try simp only [Act.put, List.setIfInBounds_toArray, List.set_cons_zero, List.set_cons_succ]
            refine wpAnyH_done (by kernel_rfl) ?_ _
            refine NoPanic.normal ?_
            go_wp2
            go_roundw
            case rel => exact ⟨k + 1, hlt, by go_num, Lib.hid (next_allP HR.out HLT.out), HBUD.out⟩
            case measure => simp [intOf]; omega
          · have HNL : Hid (ltL (xs.getD k (0, 0)) (y1, x2) = false) := Lib.hid (by rw [HY.out]; unfold ltL; simp; omega)
            by_cases h4 : y2 = x2
            · subst h4
              have HE : Hid (putL (y1, y2) xs = xs) := Lib.hid (putL_same hkx HR.out HNL.out HY.out)
              go_wp2_with fail
              refine wp_region_noPanic ?_
              refine wp_region_held_drew (S := (fun w' => (w'.cell? ⟨W.heap.size, 0, none⟩ = some (.int .i64 y1) ∧ w'.cell? ⟨W.heap.size, 1, none⟩ = some (.int .i64 y2)) ∧ (w'.cell? ⟨g, k * 2, none⟩ = some (.int .i64 y1) ∧ w'.cell? ⟨g, k * 2 + 1, none⟩ = some (.int .i64 y2)))) (by kernel_rfl) ?_ (fun hHeld => ?_)
              · rw [World.cell?_drew, World.cell?_drew, World.cell?_drew, World.cell?_drew]; exact HSS.out
              refine take_val 0 (some 6) (.int .i64 k) (by kernel_rfl) (by kernel_rfl) (by kernel_rfl) (fun _ _ _ h => h) ⟨_, rfl, rfl, by rfl, fun w hSw => by go_simp⟩ (by assumption) ?_
              try simp only [Act.put, List.setIfInBounds_toArray, List.set_cons_zero, List.set_cons_succ]
              refine take_val 1 (some 7) (.slice (some ⟨g, 0, none⟩) len cap) (by kernel_rfl) (by kernel_rfl) (by kernel_rfl) (fun _ _ _ h => h) ⟨_, rfl, rfl, by rfl, fun w hSw => by go_simp⟩ (by assumption) ?_
              try simp only [Act.put, List.setIfInBounds_toArray, List.set_cons_zero, List.set_cons_succ]
              refine take_val 2 (some 8) (.int .i64 len) (by kernel_rfl) (by kernel_rfl) (by kernel_rfl) (fun _ _ _ h => h) ⟨_, rfl, rfl, by rfl, fun w hSw => by go_simp⟩ (by assumption) ?_
              try simp only [Act.put, List.setIfInBounds_toArray, List.set_cons_zero, List.set_cons_succ]
              refine take_val 3 (some 9) (.bool true) (by kernel_rfl) (by kernel_rfl) (by kernel_rfl) (fun _ _ _ h => h) ⟨_, rfl, rfl, by rfl, fun w hSw => by go_simp⟩ (by assumption) ?_
              try simp only [Act.put, List.setIfInBounds_toArray, List.set_cons_zero, List.set_cons_succ]
              refine take_val 4 (some 10) (.bool true) (by kernel_rfl) (by kernel_rfl) (by kernel_rfl) (fun _ _ _ h => h) ⟨_, rfl, rfl, by rfl, fun w hSw => by go_simp⟩ (by assumption) ?_
              try simp only [Act.put, List.setIfInBounds_toArray, List.set_cons_zero, List.set_cons_succ]
              refine take_val 5 (some 11) (.slice (some ⟨g, 0, none⟩) len cap) (by kernel_rfl) (by kernel_rfl) (by kernel_rfl) (fun _ _ _ h => h) ⟨_, rfl, rfl, by rfl, fun w hSw => by go_simp⟩ (by assumption) ?_
              try simp only [Act.put, List.setIfInBounds_toArray, List.set_cons_zero, List.set_cons_succ]
              refine take_val 6 (some 12) (.int .i64 k) (by kernel_rfl) (by kernel_rfl) (by kernel_rfl) (fun _ _ _ h => h) ⟨_, rfl, rfl, by rfl, fun w hSw => by go_simp⟩ (by assumption) ?_
              try simp only [Act.put, List.setIfInBounds_toArray, List.set_cons_zero, List.set_cons_succ]
              refine take_val 7 (some 13) (.pointer (some ⟨g, k * 2, none⟩)) (by kernel_rfl) (by kernel_rfl) (by kernel_rfl) (fun _ _ _ h => h) ⟨_, rfl, rfl, by rfl, fun w hSw => by go_simp⟩ (by assumption) ?_
              try simp only [Act.put, List.setIfInBounds_toArray, List.set_cons_zero, List.set_cons_succ]
              refine take_val 8 (some 14) (.pointer (some ⟨g, k * 2, none⟩)) (by kernel_rfl) (by kernel_rfl) (by kernel_rfl) (fun _ _ _ h => h) ⟨_, rfl, rfl, by rfl, fun w hSw => by go_simp⟩ (by assumption) ?_
              try simp only [Act.put, List.setIfInBounds_toArray, List.set_cons_zero, List.set_cons_succ]
              refine take_val 9 (some 15) (.int .i64 y1) (by kernel_rfl) (by kernel_rfl) (by kernel_rfl) (fun _ _ _ h => h) ⟨_, rfl, rfl, by rfl, fun w hSw => by go_simp⟩ (by assumption) ?_
              try simp only [Act.put, List.setIfInBounds_toArray, List.set_cons_zero, List.set_cons_succ]
              refine take_val 10 (some 16) (.pointer (some ⟨W.heap.size, 0, none⟩)) (by kernel_rfl) (by kernel_rfl) (by kernel_rfl) (fun _ _ _ h => h) ⟨_, rfl, rfl, by rfl, fun w hSw => by go_simp⟩ (by assumption) ?_
              try simp only [Act.put, List.setIfInBounds_toArray, List.set_cons_zero, List.set_cons_succ]
              refine take_val 11 (some 17) (.int .i64 y1) (by kernel_rfl) (by kernel_rfl) (by kernel_rfl) (fun _ _ _ h => h) ⟨_, rfl, rfl, by rfl, fun w hSw => by go_simp⟩ (by assumption) ?_
              try simp only [Act.put, List.setIfInBounds_toArray, List.set_cons_zero, List.set_cons_succ]
              refine take_val 12 (some 18) (.bool false) (by kernel_rfl) (by kernel_rfl) (by kernel_rfl) (fun _ _ _ h => h) ⟨_, rfl, rfl, by rfl, fun w hSw => by go_simp⟩ (by assumption) ?_
              try simp only [Act.put, List.setIfInBounds_toArray, List.set_cons_zero, List.set_cons_succ]
              refine take_val 13 (some 19) (.bool false) (by kernel_rfl) (by kernel_rfl) (by kernel_rfl) (fun _ _ _ h => h) ⟨_, rfl, rfl, by rfl, fun w hSw => by go_simp⟩ (by assumption) ?_
              try simp only [Act.put, List.setIfInBounds_toArray, List.set_cons_zero, List.set_cons_succ]
              refine take_val 14 (some 20) (.slice (some ⟨g, 0, none⟩) len cap) (by kernel_rfl) (by kernel_rfl) (by kernel_rfl) (fun _ _ _ h => h) ⟨_, rfl, rfl, by rfl, fun w hSw => by go_simp⟩ (by assumption) ?_
              try simp only [Act.put, List.setIfInBounds_toArray, List.set_cons_zero, List.set_cons_succ]
              refine take_val 15 (some 21) (.int .i64 k) (by kernel_rfl) (by kernel_rfl) (by kernel_rfl) (fun _ _ _ h => h) ⟨_, rfl, rfl, by rfl, fun w hSw => by go_simp⟩ (by assumption) ?_
              try simp only [Act.put, List.setIfInBounds_toArray, List.set_cons_zero, List.set_cons_succ]
              refine take_val 16 (some 22) (.pointer (some ⟨g, k * 2, none⟩)) (by kernel_rfl) (by kernel_rfl) (by kernel_rfl) (fun _ _ _ h => h) ⟨_, rfl, rfl, by rfl, fun w hSw => by go_simp⟩ (by assumption) ?_
              try simp only [Act.put, List.setIfInBounds_toArray, List.set_cons_zero, List.set_cons_succ]
              refine take_val 17 (some 23) (.pointer (some ⟨g, k * 2, none⟩)) (by kernel_rfl) (by kernel_rfl) (by kernel_rfl) (fun _ _ _ h => h) ⟨_, rfl, rfl, by rfl, fun w hSw => by go_simp⟩ (by assumption) ?_
              try simp only [Act.put, List.setIfInBounds_toArray, List.set_cons_zero, List.set_cons_succ]
              refine take_val 18 (some 24) (.int .i64 y1) (by kernel_rfl) (by kernel_rfl) (by kernel_rfl) (fun _ _ _ h => h) ⟨_, rfl, rfl, by rfl, fun w hSw => by go_simp⟩ (by assumption) ?_
              try simp only [Act.put, List.setIfInBounds_toArray, List.set_cons_zero, List.set_cons_succ]
              refine take_val 19 (some 25) (.pointer (some ⟨W.heap.size, 0, none⟩)) (by kernel_rfl) (by kernel_rfl) (by kernel_rfl) (fun _ _ _ h => h) ⟨_, rfl, rfl, by rfl, fun w hSw => by go_simp⟩ (by assumption) ?_
              try simp only [Act.put, List.setIfInBounds_toArray, List.set_cons_zero, List.set_cons_succ]
              refine take_val 20 (some 26) (.int .i64 y1) (by kernel_rfl) (by kernel_rfl) (by kernel_rfl) (fun _ _ _ h => h) ⟨_, rfl, rfl, by rfl, fun w hSw => by go_simp⟩ (by assumption) ?_
              try simp only [Act.put, List.setIfInBounds_toArray, List.set_cons_zero, List.set_cons_succ]
              refine take_val 21 (some 27) (.bool true) (by kernel_rfl) (by kernel_rfl) (by kernel_rfl) (fun _ _ _ h => h) ⟨_, rfl, rfl, by rfl, fun w hSw => by go_simp⟩ (by assumption) ?_
              try simp only [Act.put, List.setIfInBounds_toArray, List.set_cons_zero, List.set_cons_succ]
              refine take_val 22 (some 28) (.bool true) (by kernel_rfl) (by kernel_rfl) (by kernel_rfl) (fun _ _ _ h => h) ⟨_, rfl, rfl, by rfl, fun w hSw => by go_simp⟩ (by assumption) ?_
              try simp only [Act.put, List.setIfInBounds_toArray, List.set_cons_zero, List.set_cons_succ]
              refine take_val 23 (some 29) (.slice (some ⟨g, 0, none⟩) len cap) (by kernel_rfl) (by kernel_rfl) (by kernel_rfl) (fun _ _ _ h => h) ⟨_, rfl, rfl, by rfl, fun w hSw => by go_simp⟩ (by assumption) ?_
              try simp only [Act.put, List.setIfInBounds_toArray, List.set_cons_zero, List.set_cons_succ]
              refine take_val 24 (some 30) (.int .i64 k) (by kernel_rfl) (by kernel_rfl) (by kernel_rfl) (fun _ _ _ h => h) ⟨_, rfl, rfl, by rfl, fun w hSw => by go_simp⟩ (by assumption) ?_
              try simp only [Act.put, List.setIfInBounds_toArray, List.set_cons_zero, List.set_cons_succ]
              refine take_val 25 (some 31) (.pointer (some ⟨g, k * 2, none⟩)) (by kernel_rfl) (by kernel_rfl) (by kernel_rfl) (fun _ _ _ h => h) ⟨_, rfl, rfl, by rfl, fun w hSw => by go_simp⟩ (by assumption) ?_
              try simp only [Act.put, List.setIfInBounds_toArray, List.set_cons_zero, List.set_cons_succ]
              refine take_val 26 (some 32) (.pointer (some ⟨g, k * 2 + 1, none⟩)) (by kernel_rfl) (by kernel_rfl) (by kernel_rfl) (fun _ _ _ h => h) ⟨_, rfl, rfl, by rfl, fun w hSw => by go_simp⟩ (by assumption) ?_
              try simp only [Act.put, List.setIfInBounds_toArray, List.set_cons_zero, List.set_cons_succ]
              refine take_val 27 (some 33) (.int .i64 y2) (by kernel_rfl) (by kernel_rfl) (by kernel_rfl) (fun _ _ _ h => h) ⟨_, rfl, rfl, by rfl, fun w hSw => by go_simp⟩ (by assumption) ?_
              try simp only [Act.put, List.setIfInBounds_toArray, List.set_cons_zero, List.set_cons_succ]
              refine take_val 28 (some 34) (.pointer (some ⟨W.heap.size, 1, none⟩)) (by kernel_rfl) (by kernel_rfl) (by kernel_rfl) (fun _ _ _ h => h) ⟨_, rfl, rfl, by rfl, fun w hSw => by go_simp⟩ (by assumption) ?_
              try simp only [Act.put, List.setIfInBounds_toArray, List.set_cons_zero, List.set_cons_succ]
              refine take_val 29 (some 35) (.int .i64 y2) (by kernel_rfl) (by kernel_rfl) (by kernel_rfl) (fun _ _ _ h => h) ⟨_, rfl, rfl, by rfl, fun w hSw => by go_simp⟩ (by assumption) ?_
              try simp only [Act.put, List.setIfInBounds_toArray, List.set_cons_zero, List.set_cons_succ]
              refine take_val 30 (some 36) (.bool false) (by kernel_rfl) (by kernel_rfl) (by kernel_rfl) (fun _ _ _ h => h) ⟨_, rfl, rfl, by rfl, fun w hSw => by go_simp⟩ (by assumption) ?_
              try simp only [Act.put, List.setIfInBounds_toArray, List.set_cons_zero, List.set_cons_succ]
              refine take_val 31 (some 37) (.bool false) (by kernel_rfl) (by kernel_rfl) (by kernel_rfl) (fun _ _ _ h => h) ⟨_, rfl, rfl, by rfl, fun w hSw => by go_simp⟩ (by assumption) ?_
              try simp only [Act.put, List.setIfInBounds_toArray, List.set_cons_zero, List.set_cons_succ]
              refine take_val 32 (some 38) (.bool false) (by kernel_rfl) (by kernel_rfl) (by kernel_rfl) (fun _ _ _ h => h) ⟨_, rfl, rfl, by rfl, fun w hSw => by go_simp⟩ (by assumption) ?_
              try simp only [Act.put, List.setIfInBounds_toArray, List.set_cons_zero, List.set_cons_succ]
              refine take_val 33 (some 39) (.bool false) (by kernel_rfl) (by kernel_rfl) (by kernel_rfl) (fun _ _ _ h => h) ⟨_, rfl, rfl, by rfl, fun w hSw => by go_simp⟩ (by assumption) ?_
              try simp only [Act.put, List.setIfInBounds_toArray, List.set_cons_zero, List.set_cons_succ]
              refine wpAnyH_done (by kernel_rfl) ?_ _
              refine NoPanic.normal ?_
              go_wp2_with fail
              refine wp_region_noPanic ?_
              refine wp_region_held_drew (S := (fun w' => (w'.cell? ⟨W.heap.size, 0, none⟩ = some (.int .i64 y1) ∧ w'.cell? ⟨W.heap.size, 1, none⟩ = some (.int .i64 y2)) ∧ (w'.cell? ⟨g, k * 2, none⟩ = some (.int .i64 y1) ∧ w'.cell? ⟨g, k * 2 + 1, none⟩ = some (.int .i64 y2)))) (by kernel_rfl) ?_ (fun hHeld => ?_)
              · rw [World.cell?_drew, World.cell?_drew, World.cell?_drew, World.cell?_drew]; exact HSD.out
              refine take_val 0 (some 42) (.int .i64 k) (by kernel_rfl) (by kernel_rfl) (by kernel_rfl) (fun _ _ _ h => h) ⟨_, rfl, rfl, by rfl, fun w hSw => by go_simp⟩ (by assumption) ?_
              try simp only [Act.put, List.setIfInBounds_toArray, List.set_cons_zero, List.set_cons_succ]
              refine take_val 1 (some 43) (.slice (some ⟨g, 0, none⟩) len cap) (by kernel_rfl) (by kernel_rfl) (by kernel_rfl) (fun _ _ _ h => h) ⟨_, rfl, rfl, by rfl, fun w hSw => by go_simp⟩ (by assumption) ?_
              try simp only [Act.put, List.setIfInBounds_toArray, List.set_cons_zero, List.set_cons_succ]
              refine take_val 2 (some 44) (.int .i64 len) (by kernel_rfl) (by kernel_rfl) (by kernel_rfl) (fun _ _ _ h => h) ⟨_, rfl, rfl, by rfl, fun w hSw => by go_simp⟩ (by assumption) ?_
              try simp only [Act.put, List.setIfInBounds_toArray, List.set_cons_zero, List.set_cons_succ]
              refine take_val 3 (some 45) (.bool true) (by kernel_rfl) (by kernel_rfl) (by kernel_rfl) (fun _ _ _ h => h) ⟨_, rfl, rfl, by rfl, fun w hSw => by go_simp⟩ (by assumption) ?_
              try simp only [Act.put, List.setIfInBounds_toArray, List.set_cons_zero, List.set_cons_succ]
              refine take_val 4 (some 46) (.bool true) (by kernel_rfl) (by kernel_rfl) (by kernel_rfl) (fun _ _ _ h => h) ⟨_, rfl, rfl, by rfl, fun w hSw => by go_simp⟩ (by assumption) ?_
              try simp only [Act.put, List.setIfInBounds_toArray, List.set_cons_zero, List.set_cons_succ]
              refine take_val 5 (some 47) (.slice (some ⟨g, 0, none⟩) len cap) (by kernel_rfl) (by kernel_rfl) (by kernel_rfl) (fun _ _ _ h => h) ⟨_, rfl, rfl, by rfl, fun w hSw => by go_simp⟩ (by assumption) ?_
              try simp only [Act.put, List.setIfInBounds_toArray, List.set_cons_zero, List.set_cons_succ]
              refine take_val 6 (some 48) (.int .i64 k) (by kernel_rfl) (by kernel_rfl) (by kernel_rfl) (fun _ _ _ h => h) ⟨_, rfl, rfl, by rfl, fun w hSw => by go_simp⟩ (by assumption) ?_
              try simp only [Act.put, List.setIfInBounds_toArray, List.set_cons_zero, List.set_cons_succ]
              refine take_val 7 (some 49) (.pointer (some ⟨g, k * 2, none⟩)) (by kernel_rfl) (by kernel_rfl) (by kernel_rfl) (fun _ _ _ h => h) ⟨_, rfl, rfl, by rfl, fun w hSw => by go_simp⟩ (by assumption) ?_
              try simp only [Act.put, List.setIfInBounds_toArray, List.set_cons_zero, List.set_cons_succ]
              refine take_val 8 (some 50) (.agg #[.int .i64 y1, .int .i64 y2]) (by kernel_rfl) (by kernel_rfl) (by kernel_rfl) (fun _ _ _ h => h) ⟨_, rfl, rfl, by rfl, fun w hSw => by go_simp⟩ (by assumption) ?_
              try simp only [Act.put, List.setIfInBounds_toArray, List.set_cons_zero, List.set_cons_succ]
              refine take_val 9 (some 51) (.agg #[.int .i64 y1, .int .i64 y2]) (by kernel_rfl) (by kernel_rfl) (by kernel_rfl) (fun _ _ _ h => h) ⟨_, rfl, rfl, by rfl, fun w hSw => by go_simp⟩ (by assumption) ?_
              try simp only [Act.put, List.setIfInBounds_toArray, List.set_cons_zero, List.set_cons_succ]
              refine take_val 10 (some 52) (.bool true) (by kernel_rfl) (by kernel_rfl) (by kernel_rfl) (fun _ _ _ h => h) ⟨_, rfl, rfl, by rfl, fun w hSw => by go_simp⟩ (by assumption) ?_
              try simp only [Act.put, List.setIfInBounds_toArray, List.set_cons_zero, List.set_cons_succ]
              refine take_val 11 (some 53) (.bool true) (by kernel_rfl) (by kernel_rfl) (by kernel_rfl) (fun _ _ _ h => h) ⟨_, rfl, rfl, by rfl, fun w hSw => by go_simp⟩ (by assumption) ?_
              try simp only [Act.put, List.setIfInBounds_toArray, List.set_cons_zero, List.set_cons_succ]
              refine wpAnyH_done (by kernel_rfl) ?_ _
              refine NoPanic.normal ?_
              go_wp2
              go_ret
              exact ⟨g, _, _, rfl, by rw [HE.out]; exact ((HO.out.below HBU.out).below (Below.refl _ _).drew.drew).wide (Nat.le_refl _) (by have h1 := HO.out.2.2.1; have h2 := HBU.out.size; exact Nat.le_trans h1 h2) (Nat.le_refl _), HBV.out.trans ((HBU.out.drew.drew).mono HBV.out.size)⟩
            · have HZ6 : Hid (xs.take k ++ [(y1, x2)] ++ xs.drop k = putL (y1, x2) xs) := Lib.hid (putL_new (by omega) HR.out (fun _ => ⟨HNL.out, by rw [HY.out]; intro h; cases h; exact h4 rfl⟩))
              have h4b : (y2 == x2) = false := by rw [beq_eq_false_iff_ne]; exact h4
              go_wp2_with fail
              refine wp_region_noPanic ?_
              refine wp_region_held_drew (S := (fun w' => (w'.cell? ⟨W.heap.size, 0, none⟩ = some (.int .i64 y1) ∧ w'.cell? ⟨W.heap.size, 1, none⟩ = some (.int .i64 x2)) ∧ (w'.cell? ⟨g, k * 2, none⟩ = some (.int .i64 y1) ∧ w'.cell? ⟨g, k * 2 + 1, none⟩ = some (.int .i64 y2)))) (by kernel_rfl) ?_ (fun hHeld => ?_)
              · rw [World.cell?_drew, World.cell?_drew, World.cell?_drew, World.cell?_drew]; exact HSS.out
              refine take_val 0 (some 6) (.int .i64 k) (by kernel_rfl) (by kernel_rfl) (by kernel_rfl) (fun _ _ _ h => h) ⟨_, rfl, rfl, by rfl, fun w hSw => by go_simp⟩ (by assumption) ?_
              try simp only [Act.put, List.setIfInBounds_toArray, List.set_cons_zero, List.set_cons_succ]
              refine take_val 1 (some 7) (.slice (some ⟨g, 0, none⟩) len cap) (by kernel_rfl) (by kernel_rfl) (by kernel_rfl) (fun _ _ _ h => h) ⟨_, rfl, rfl, by rfl, fun w hSw => by go_simp⟩ (by assumption) ?_
              try simp only [Act.put, List.setIfInBounds_toArray, List.set_cons_zero, List.set_cons_succ]
              refine take_val 2 (some 8) (.int .i64 len) (by kernel_rfl) (by kernel_rfl) (by kernel_rfl) (fun _ _ _ h => h) ⟨_, rfl, rfl, by rfl, fun w hSw => by go_simp⟩ (by assumption) ?_
              try simp only [Act.put, List.setIfInBounds_toArray, List.set_cons_zero, List.set_cons_succ]
              refine take_val 3 (some 9) (.bool true) (by kernel_rfl) (by kernel_rfl) (by kernel_rfl) (fun _ _ _ h => h) ⟨_, rfl, rfl, by rfl, fun w hSw => by go_simp⟩ (by assumption) ?_
              try simp only [Act.put, List.setIfInBounds_toArray, List.set_cons_zero, List.set_cons_succ]
              refine take_val 4 (some 10) (.bool true) (by kernel_rfl) (by kernel_rfl) (by kernel_rfl) (fun _ _ _ h => h) ⟨_, rfl, rfl, by rfl, fun w hSw => by go_simp⟩ (by assumption) ?_
              try simp only [Act.put, List.setIfInBounds_toArray, List.set_cons_zero, List.set_cons_succ]
              refine take_val 5 (some 11) (.slice (some ⟨g, 0, none⟩) len cap) (by kernel_rfl) (by kernel_rfl) (by kernel_rfl) (fun _ _ _ h => h) ⟨_, rfl, rfl, by rfl, fun w hSw => by go_simp⟩ (by assumption) ?_
              try simp only [Act.put, List.setIfInBounds_toArray, List.set_cons_zero, List.set_cons_succ]
              refine take_val 6 (some 12) (.int .i64 k) (by kernel_rfl) (by kernel_rfl) (by kernel_rfl) (fun _ _ _ h => h) ⟨_, rfl, rfl, by rfl, fun w hSw => by go_simp⟩ (by assumption) ?_
              try simp only [Act.put, List.setIfInBounds_toArray, List.set_cons_zero, List.set_cons_succ]
              refine take_val 7 (some 13) (.pointer (some ⟨g, k * 2, none⟩)) (by kernel_rfl) (by kernel_rfl) (by kernel_rfl) (fun _ _ _ h => h) ⟨_, rfl, rfl, by rfl, fun w hSw => by go_simp⟩ (by assumption) ?_
              try simp only [Act.put, List.setIfInBounds_toArray, List.set_cons_zero, List.set_cons_succ]
              refine take_val 8 (some 14) (.pointer (some ⟨g, k * 2, none⟩)) (by kernel_rfl) (by kernel_rfl) (by kernel_rfl) (fun _ _ _ h => h) ⟨_, rfl, rfl, by rfl, fun w hSw => by go_simp⟩ (by assumption) ?_
              try simp only [Act.put, List.setIfInBounds_toArray, List.set_cons_zero, List.set_cons_succ]
              refine take_val 9 (some 15) (.int .i64 y1) (by kernel_rfl) (by kernel_rfl) (by kernel_rfl) (fun _ _ _ h => h) ⟨_, rfl, rfl, by rfl, fun w hSw => by go_simp⟩ (by assumption) ?_
              try simp only [Act.put, List.setIfInBounds_toArray, List.set_cons_zero, List.set_cons_succ]
              refine take_val 10 (some 16) (.pointer (some ⟨W.heap.size, 0, none⟩)) (by kernel_rfl) (by kernel_rfl) (by kernel_rfl) (fun _ _ _ h => h) ⟨_, rfl, rfl, by rfl, fun w hSw => by go_simp⟩ (by assumption) ?_
              try simp only [Act.put, List.setIfInBounds_toArray, List.set_cons_zero, List.set_cons_succ]
              refine take_val 11 (some 17) (.int .i64 y1) (by kernel_rfl) (by kernel_rfl) (by kernel_rfl) (fun _ _ _ h => h) ⟨_, rfl, rfl, by rfl, fun w hSw => by go_simp⟩ (by assumption) ?_
              try simp only [Act.put, List.setIfInBounds_toArray, List.set_cons_zero, List.set_cons_succ]
              refine take_val 12 (some 18) (.bool false) (by kernel_rfl) (by kernel_rfl) (by kernel_rfl) (fun _ _ _ h => h) ⟨_, rfl, rfl, by rfl, fun w hSw => by go_simp⟩ (by assumption) ?_
              try simp only [Act.put, List.setIfInBounds_toArray, List.set_cons_zero, List.set_cons_succ]
              refine take_val 13 (some 19) (.bool false) (by kernel_rfl) (by kernel_rfl) (by kernel_rfl) (fun _ _ _ h => h) ⟨_, rfl, rfl, by rfl, fun w hSw => by go_simp⟩ (by assumption) ?_
              try simp only [Act.put, List.setIfInBounds_toArray, List.set_cons_zero, List.set_cons_succ]
              refine take_val 14 (some 20) (.slice (some ⟨g, 0, none⟩) len cap) (by kernel_rfl) (by kernel_rfl) (by kernel_rfl) (fun _ _ _ h => h) ⟨_, rfl, rfl, by rfl, fun w hSw => by go_simp⟩ (by assumption) ?_
              try simp only [Act.put, List.setIfInBounds_toArray, List.set_cons_zero, List.set_cons_succ]
              refine take_val 15 (some 21) (.int .i64 k) (by kernel_rfl) (by kernel_rfl) (by kernel_rfl) (fun _ _ _ h => h) ⟨_, rfl, rfl, by rfl, fun w hSw => by go_simp⟩ (by assumption) ?_
              try simp only [Act.put, List.setIfInBounds_toArray, List.set_cons_zero, List.set_cons_succ]
              refine take_val 16 (some 22) (.pointer (some ⟨g, k * 2, none⟩)) (by kernel_rfl) (by kernel_rfl) (by kernel_rfl) (fun _ _ _ h => h) ⟨_, rfl, rfl, by rfl, fun w hSw => by go_simp⟩ (by assumption) ?_
              try simp only [Act.put, List.setIfInBounds_toArray, List.set_cons_zero, List.set_cons_succ]
              refine take_val 17 (some 23) (.pointer (some ⟨g, k * 2, none⟩)) (by kernel_rfl) (by kernel_rfl) (by kernel_rfl) (fun _ _ _ h => h) ⟨_, rfl, rfl, by rfl, fun w hSw => by go_simp⟩ (by assumption) ?_
              try simp only [Act.put, List.setIfInBounds_toArray, List.set_cons_zero, List.set_cons_succ]
              refine take_val 18 (some 24) (.int .i64 y1) (by kernel_rfl) (by kernel_rfl) (by kernel_rfl) (fun _ _ _ h => h) ⟨_, rfl, rfl, by rfl, fun w hSw => by go_simp⟩ (by assumption) ?_
              try simp only [Act.put, List.setIfInBounds_toArray, List.set_cons_zero, List.set_cons_succ]
              refine take_val 19 (some 25) (.pointer (some ⟨W.heap.size, 0, none⟩)) (by kernel_rfl) (by kernel_rfl) (by kernel_rfl) (fun _ _ _ h => h) ⟨_, rfl, rfl, by rfl, fun w hSw => by go_simp⟩ (by assumption) ?_
              try simp only [Act.put, List.setIfInBounds_toArray, List.set_cons_zero, List.set_cons_succ]
              refine take_val 20 (some 26) (.int .i64 y1) (by kernel_rfl) (by kernel_rfl) (by kernel_rfl) (fun _ _ _ h => h) ⟨_, rfl, rfl, by rfl, fun w hSw => by go_simp⟩ (by assumption) ?_
              try simp only [Act.put, List.setIfInBounds_toArray, List.set_cons_zero, List.set_cons_succ]
              refine take_val 21 (some 27) (.bool true) (by kernel_rfl) (by kernel_rfl) (by kernel_rfl) (fun _ _ _ h => h) ⟨_, rfl, rfl, by rfl, fun w hSw => by go_simp⟩ (by assumption) ?_
              try simp only [Act.put, List.setIfInBounds_toArray, List.set_cons_zero, List.set_cons_succ]
              refine take_val 22 (some 28) (.bool true) (by kernel_rfl) (by kernel_rfl) (by kernel_rfl) (fun _ _ _ h => h) ⟨_, rfl, rfl, by rfl, fun w hSw => by go_simp⟩ (by assumption) ?_
              try simp only [Act.put, List.setIfInBounds_toArray, List.set_cons_zero, List.set_cons_succ]
              refine take_val 23 (some 29) (.slice (some ⟨g, 0, none⟩) len cap) (by kernel_rfl) (by kernel_rfl) (by kernel_rfl) (fun _ _ _ h => h) ⟨_, rfl, rfl, by rfl, fun w hSw => by go_simp⟩ (by assumption) ?_
              try simp only [Act.put, List.setIfInBounds_toArray, List.set_cons_zero, List.set_cons_succ]
              refine take_val 24 (some 30) (.int .i64 k) (by kernel_rfl) (by kernel_rfl) (by kernel_rfl) (fun _ _ _ h => h) ⟨_, rfl, rfl, by rfl, fun w hSw => by go_simp⟩ (by assumption) ?_
              try simp only [Act.put, List.setIfInBounds_toArray, List.set_cons_zero, List.set_cons_succ]
              refine take_val 25 (some 31) (.pointer (some ⟨g, k * 2, none⟩)) (by kernel_rfl) (by kernel_rfl) (by kernel_rfl) (fun _ _ _ h => h) ⟨_, rfl, rfl, by rfl, fun w hSw => by go_simp⟩ (by assumption) ?_
              try simp only [Act.put, List.setIfInBounds_toArray, List.set_cons_zero, List.set_cons_succ]
              refine take_val 26 (some 32) (.pointer (some ⟨g, k * 2 + 1, none⟩)) (by kernel_rfl) (by kernel_rfl) (by kernel_rfl) (fun _ _ _ h => h) ⟨_, rfl, rfl, by rfl, fun w hSw => by go_simp⟩ (by assumption) ?_
              try simp only [Act.put, List.setIfInBounds_toArray, List.set_cons_zero, List.set_cons_succ]
              refine take_val 27 (some 33) (.int .i64 y2) (by kernel_rfl) (by kernel_rfl) (by kernel_rfl) (fun _ _ _ h => h) ⟨_, rfl, rfl, by rfl, fun w hSw => by go_simp⟩ (by assumption) ?_
              try simp only [Act.put, List.setIfInBounds_toArray, List.set_cons_zero, List.set_cons_succ]
              refine take_val 28 (some 34) (.pointer (some ⟨W.heap.size, 1, none⟩)) (by kernel_rfl) (by kernel_rfl) (by kernel_rfl) (fun _ _ _ h => h) ⟨_, rfl, rfl, by rfl, fun w hSw => by go_simp⟩ (by assumption) ?_
              try simp only [Act.put, List.setIfInBounds_toArray, List.set_cons_zero, List.set_cons_succ]
              refine take_val 29 (some 35) (.int .i64 x2) (by kernel_rfl) (by kernel_rfl) (by kernel_rfl) (fun _ _ _ h => h) ⟨_, rfl, rfl, by rfl, fun w hSw => by go_simp⟩ (by assumption) ?_
              try simp only [Act.put, List.setIfInBounds_toArray, List.set_cons_zero, List.set_cons_succ]
              refine take_val 30 (some 36) (.bool false) (by kernel_rfl) (by kernel_rfl) (by kernel_rfl) (fun _ _ _ h => h) ⟨_, rfl, rfl, by rfl, fun w hSw => by go_simp⟩ (by assumption) ?_
              try simp only [Act.put, List.setIfInBounds_toArray, List.set_cons_zero, List.set_cons_succ]
              refine take_val 31 (some 37) (.bool false) (by kernel_rfl) (by kernel_rfl) (by kernel_rfl) (fun _ _ _ h => h) ⟨_, rfl, rfl, by rfl, fun w hSw => by go_simp⟩ (by assumption) ?_
              try simp only [Act.put, List.setIfInBounds_toArray, List.set_cons_zero, List.set_cons_succ]
              refine take_val 32 (some 38) (.bool false) (by kernel_rfl) (by kernel_rfl) (by kernel_rfl) (fun _ _ _ h => h) ⟨_, rfl, rfl, by rfl, fun w hSw => by go_simp⟩ (by assumption) ?_
              try simp only [Act.put, List.setIfInBounds_toArray, List.set_cons_zero, List.set_cons_succ]
              refine take_val 33 (some 39) (.bool false) (by kernel_rfl) (by kernel_rfl) (by kernel_rfl) (fun _ _ _ h => h) ⟨_, rfl, rfl, by rfl, fun w hSw => by go_simp⟩ (by assumption) ?_
              try simp only [Act.put, List.setIfInBounds_toArray, List.set_cons_zero, List.set_cons_succ]
              refine wpAnyH_done (by kernel_rfl) ?_ _
              refine NoPanic.normal ?_
              go_wp2_with fail
              refine wp_region_noPanic ?_
              refine wp_region_held_drew (S := (fun w' => (w'.cell? ⟨W.heap.size, 0, none⟩ = some (.int .i64 y1) ∧ w'.cell? ⟨W.heap.size, 1, none⟩ = some (.int .i64 x2)) ∧ (w'.cell? ⟨g, k * 2, none⟩ = some (.int .i64 y1) ∧ w'.cell? ⟨g, k * 2 + 1, none⟩ = some (.int .i64 y2)))) (by kernel_rfl) ?_ (fun hHeld => ?_)
              · rw [World.cell?_drew, World.cell?_drew, World.cell?_drew, World.cell?_drew]; exact HSD.out
              refine take_val 0 (some 42) (.int .i64 k) (by kernel_rfl) (by kernel_rfl) (by kernel_rfl) (fun _ _ _ h => h) ⟨_, rfl, rfl, by rfl, fun w hSw => by go_simp⟩ (by assumption) ?_
              try simp only [Act.put, List.setIfInBounds_toArray, List.set_cons_zero, List.set_cons_succ]
              refine take_val 1 (some 43) (.slice (some ⟨g, 0, none⟩) len cap) (by kernel_rfl) (by kernel_rfl) (by kernel_rfl) (fun _ _ _ h => h) ⟨_, rfl, rfl, by rfl, fun w hSw => by go_simp⟩ (by assumption) ?_
              try simp only [Act.put, List.setIfInBounds_toArray, List.set_cons_zero, List.set_cons_succ]
              refine take_val 2 (some 44) (.int .i64 len) (by kernel_rfl) (by kernel_rfl) (by kernel_rfl) (fun _ _ _ h => h) ⟨_, rfl, rfl, by rfl, fun w hSw => by go_simp⟩ (by assumption) ?_
              try simp only [Act.put, List.setIfInBounds_toArray, List.set_cons_zero, List.set_cons_succ]
              refine take_val 3 (some 45) (.bool true) (by kernel_rfl) (by kernel_rfl) (by kernel_rfl) (fun _ _ _ h => h) ⟨_, rfl, rfl, by rfl, fun w hSw => by go_simp⟩ (by assumption) ?_
              try simp only [Act.put, List.setIfInBounds_toArray, List.set_cons_zero, List.set_cons_succ]
              refine take_val 4 (some 46) (.bool true) (by kernel_rfl) (by kernel_rfl) (by kernel_rfl) (fun _ _ _ h => h) ⟨_, rfl, rfl, by rfl, fun w hSw => by go_simp⟩ (by assumption) ?_
              try simp only [Act.put, List.setIfInBounds_toArray, List.set_cons_zero, List.set_cons_succ]
              refine take_val 5 (some 47) (.slice (some ⟨g, 0, none⟩) len cap) (by kernel_rfl) (by kernel_rfl) (by kernel_rfl) (fun _ _ _ h => h) ⟨_, rfl, rfl, by rfl, fun w hSw => by go_simp⟩ (by assumption) ?_
              try simp only [Act.put, List.setIfInBounds_toArray, List.set_cons_zero, List.set_cons_succ]
              refine take_val 6 (some 48) (.int .i64 k) (by kernel_rfl) (by kernel_rfl) (by kernel_rfl) (fun _ _ _ h => h) ⟨_, rfl, rfl, by rfl, fun w hSw => by go_simp⟩ (by assumption) ?_
              try simp only [Act.put, List.setIfInBounds_toArray, List.set_cons_zero, List.set_cons_succ]
              refine take_val 7 (some 49) (.pointer (some ⟨g, k * 2, none⟩)) (by kernel_rfl) (by kernel_rfl) (by kernel_rfl) (fun _ _ _ h => h) ⟨_, rfl, rfl, by rfl, fun w hSw => by go_simp⟩ (by assumption) ?_
              try simp only [Act.put, List.setIfInBounds_toArray, List.set_cons_zero, List.set_cons_succ]
              refine take_val 8 (some 50) (.agg #[.int .i64 y1, .int .i64 y2]) (by kernel_rfl) (by kernel_rfl) (by kernel_rfl) (fun _ _ _ h => h) ⟨_, rfl, rfl, by rfl, fun w hSw => by go_simp⟩ (by assumption) ?_
              try simp only [Act.put, List.setIfInBounds_toArray, List.set_cons_zero, List.set_cons_succ]
              refine take_val 9 (some 51) (.agg #[.int .i64 y1, .int .i64 x2]) (by kernel_rfl) (by kernel_rfl) (by kernel_rfl) (fun _ _ _ h => h) ⟨_, rfl, rfl, by rfl, fun w hSw => by go_simp⟩ (by assumption) ?_
              try simp only [Act.put, List.setIfInBounds_toArray, List.set_cons_zero, List.set_cons_succ]
              refine take_val 10 (some 52) (.bool false) (by kernel_rfl) (by kernel_rfl) (by kernel_rfl) (fun _ _ _ h => h) ⟨_, rfl, rfl, by rfl, fun w hSw => by go_simp⟩ (by assumption) ?_
              try simp only [Act.put, List.setIfInBounds_toArray, List.set_cons_zero, List.set_cons_succ]
              refine take_val 11 (some 53) (.bool false) (by kernel_rfl) (by kernel_rfl) (by kernel_rfl) (fun _ _ _ h => h) ⟨_, rfl, rfl, by rfl, fun w hSw => by go_simp⟩ (by assumption) ?_
              try simp only [Act.put, List.setIfInBounds_toArray, List.set_cons_zero, List.set_cons_succ]
              refine wpAnyH_done (by kernel_rfl) ?_ _
              refine NoPanic.normal ?_
              obtain ⟨D, hD⟩ : ∃ D, D = U.drew.drew := ⟨_, rfl⟩
              have HBD := Lib.hid (show Below V.heap.size V D by rw [hD]; exact HBU.out.drew.drew)
              have hzD := HBD.out.size
              have hXD : W.heap.size < D.heap.size := by omega
              have C0 := Lib.hid (show D.cell? ⟨W.heap.size, 0, none⟩ = some (.int .i64 y1) by rw [hD, World.cell?_drew, World.cell?_drew]; exact HPU.out.c0)
              have C1 := Lib.hid (show D.cell? ⟨W.heap.size, 1, none⟩ = some (.int .i64 x2) by rw [hD, World.cell?_drew, World.cell?_drew]; exact HPU.out.c1)
              have HOD := Lib.hid (HO.out.below HBD.out)
              have HTK := Lib.hid (HOD.out.sees.cutL (k := k) (by omega))
              have HDR := Lib.hid (HOD.out.sees.dropL (cap := cap) HCAP.out (p := k) (by omega))
              have c0 := C0.out
              have c1 := C1.out
              have hcapi : (len : Int) ≤ (cap : Int) := by have := HCAP.out; omega
              have hkc : (k : Int) ≤ (cap : Int) := by have := HCAP.out; omega
              have hkl0 : (k : Int) ≤ (len : Int) := by omega
              have hk0 : (0 : Int) ≤ (k : Int) := by omega
              have HN2 : Hid (OwnL ((D.alloc (.cells #[.int .i64 y1, .int .i64 x2] 38)).alloc (.cells #[] 38)) (D.heap.size + 1) (D.heap.size + 1 + 1) (some ⟨D.heap.size + 1, 0, none⟩) 0 0 []) := Lib.hid (by
                have h := ownL_nil (D.alloc (.cells #[.int .i64 y1, .int .i64 x2] 38))
                rw [World.size_alloc] at h
                exact h)
              have HS2 : Hid (SeesL ((D.alloc (.cells #[] 38)).alloc (.cells #[.int .i64 y1, .int .i64 x2] 38)) (some ⟨D.heap.size + 1, 0, none⟩) 1 [(y1, x2)]) := Lib.hid (by
                have h := seesL_one HW1.out HW2.out (D.alloc (.cells #[] 38)) 38
                rw [World.size_alloc] at h
                exact h)
              rw [← hD]
              clear hD
              go_wp2_with fail
              go_region_held3 (fun w' => w'.cell? ⟨W.heap.size, 0, none⟩ = some (.int .i64 y1) ∧ w'.cell? ⟨W.heap.size, 1, none⟩ = some (.int .i64 x2)) (go_keep) (first
                | (refine step_append_seesL (by rfl) _ _ 24 rfl i0 Try.underlying24 hi hz0 hz1 hz2 _ _ _ _ rfl _ _ HO5.out _ _ _ (xs.drop k) rfl (HDR.out.below G5.out) (by unfold maxLen; omega) (by omega) (by have := G5.out.size; omega) ?_; intro a6 len6 cap6 w6 hlen6 ho6 hm6; clear hlen6; rw [HZ6.out] at ho6; have hl6 := ho6.1; subst hl6; have HO6 := Lib.hid ho6; have G6 := Lib.hid (below_moved (B := D.heap.size) G5.out hm6 (Nat.le_refl _) (Nat.le_refl _)); have c0 := (G6.out.cell (p := ⟨W.heap.size, 0, none⟩) hXD).trans C0.out; have c1 := (G6.out.cell (p := ⟨W.heap.size, 1, none⟩) hXD).trans C1.out; clear ho6 hm6)
                | (refine step_append_seesL (by rfl) _ _ 24 rfl i0 Try.underlying24 hi hz0 hz1 hz2 _ _ _ _ rfl _ _ HO4.out _ 1 1 [(y1, x2)] rfl HX4.out (by unfold maxLen; omega) (by omega) (by have := G4.out.size; simp; omega) ?_; intro a5 len5 cap5 w5 hlen5 ho5 hm5; have hl5 : len5 ≤ 1048577 := (by omega); clear hlen5; have HO5 := Lib.hid ho5; have G5 := Lib.hid (below_moved (B := D.heap.size) (G4.out) hm5 (Nat.le_refl _) (Nat.le_refl _)); have c0 := (G5.out.cell (p := ⟨W.heap.size, 0, none⟩) hXD).trans C0.out; have c1 := (G5.out.cell (p := ⟨W.heap.size, 1, none⟩) hXD).trans C1.out; clear ho5 hm5)
                | (refine step_append_seesL (by rfl) _ _ 24 rfl i0 Try.underlying24 hi hz0 hz1 hz2 _ _ _ _ rfl _ _ (HO4.out.alloc _) _ 1 1 [(y1, x2)] rfl (seesL_one HW1.out HW2.out _ _) (by unfold maxLen; omega) (by omega) (by have := G4.out.size; simp; omega) ?_; intro a5 len5 cap5 w5 hlen5 ho5 hm5; have hl5 : len5 ≤ 1048577 := (by omega); clear hlen5; have HO5 := Lib.hid ho5; have G5 := Lib.hid (below_moved (B := D.heap.size) (G4.out.alloc G4.out.size _) hm5 (Nat.le_refl _) (Nat.le_refl _)); have c0 := (G5.out.cell (p := ⟨W.heap.size, 0, none⟩) hXD).trans C0.out; have c1 := (G5.out.cell (p := ⟨W.heap.size, 1, none⟩) hXD).trans C1.out; clear ho5 hm5)
                | (refine step_append_seesL (by rfl) _ _ 24 rfl i0 Try.underlying24 hi hz0 hz1 hz2 _ _ _ _ rfl _ _ ((ownL_nil _).below (Below.refl _ _).drew) _ _ _ (xs.take k) rfl ((HTK.out.alloc _).below (Below.refl _ _).drew) (by unfold maxLen; omega) (by omega) (by simp <;> omega) ?_; intro a4 len4 cap4 w4 hlen4 ho4 hm4; have hl4 : len4 ≤ 1048576 := (by omega); clear hlen4; rw [List.nil_append] at ho4; have HO4 := Lib.hid (ho4.wide (lo2 := D.heap.size) (by simp <;> omega) (Nat.le_refl _) (Nat.le_refl _)); have G4 := Lib.hid (below_moved (B := D.heap.size) (((Below.refl D.heap.size D).alloc (Nat.le_refl _) _).drew) hm4 (Nat.le_refl _) (by simp <;> omega)); have c0 := (G4.out.cell (p := ⟨W.heap.size, 0, none⟩) hXD).trans C0.out; have c1 := (G4.out.cell (p := ⟨W.heap.size, 1, none⟩) hXD).trans C1.out; clear ho4 hm4)
                | (refine step_append_seesL (by rfl) _ _ 24 rfl i0 Try.underlying24 hi hz0 hz1 hz2 _ _ _ _ rfl _ _ (((ownL_nil D).alloc (.cells #[.int .i64 y1, .int .i64 x2] 38)).below (Below.refl _ _).drew) _ _ _ (xs.take k) rfl (((HTK.out.alloc (.cells #[] 38)).alloc (.cells #[.int .i64 y1, .int .i64 x2] 38)).below (Below.refl _ _).drew) (by unfold maxLen; omega) (by omega) (by simp <;> omega) ?_; intro a4 len4 cap4 w4 hlen4 ho4 hm4; have hl4 : len4 ≤ 1048576 := (by omega); clear hlen4; rw [List.nil_append] at ho4; have HO4 := Lib.hid (ho4.wide (lo2 := D.heap.size) (by simp <;> omega) (Nat.le_refl _) (Nat.le_refl _)); have HX4 := Lib.hid ((HS2.out.below (Below.refl _ _).drew).moved hm4 (fun y hy => by cases hy; simp <;> omega)); have G4 := Lib.hid (below_moved (B := D.heap.size) ((((Below.refl D.heap.size D).alloc (Nat.le_refl _) _).alloc (by simp) _).drew) hm4 (Nat.le_refl _) (by simp <;> omega)); have c0 := (G4.out.cell (p := ⟨W.heap.size, 0, none⟩) hXD).trans C0.out; have c1 := (G4.out.cell (p := ⟨W.heap.size, 1, none⟩) hXD).trans C1.out; clear ho4 hm4)
                | (refine step_append_seesL (by rfl) _ _ 24 rfl i0 Try.underlying24 hi hz0 hz1 hz2 _ _ _ _ rfl _ _ (HN2.out.below (Below.refl _ _).drew) _ _ _ (xs.take k) rfl (((HTK.out.alloc (.cells #[.int .i64 y1, .int .i64 x2] 38)).alloc (.cells #[] 38)).below (Below.refl _ _).drew) (by unfold maxLen; omega) (by omega) (by simp <;> omega) ?_; intro a4 len4 cap4 w4 hlen4 ho4 hm4; have hl4 : len4 ≤ 1048576 := (by omega); clear hlen4; rw [List.nil_append] at ho4; have HO4 := Lib.hid (ho4.wide (lo2 := D.heap.size) (by simp <;> omega) (Nat.le_refl _) (Nat.le_refl _)); have HX4 := Lib.hid ((((seesL_one HW1.out HW2.out D 38).alloc (.cells #[] 38)).below (Below.refl _ _).drew).moved hm4 (fun y hy => by cases hy; simp <;> omega)); have G4 := Lib.hid (below_moved (B := D.heap.size) ((((Below.refl D.heap.size D).alloc (Nat.le_refl _) _).alloc (by simp) _).drew) hm4 (Nat.le_refl _) (by simp <;> omega)); have c0 := (G4.out.cell (p := ⟨W.heap.size, 0, none⟩) hXD).trans C0.out; have c1 := (G4.out.cell (p := ⟨W.heap.size, 1, none⟩) hXD).trans C1.out; clear ho4 hm4))
              all_goals
                go_wp2
                all_goals
                  go_ret
                  obtain ⟨g6, rfl⟩ := HO6.out.someA (by rw [← HZ6.out]; simp <;> omega)
                  exact ⟨g6, _, _, rfl, HO6.out.wide (by omega) (Nat.le_refl _) (Nat.le_refl _), HBV.out.trans ((HBD.out.trans (G6.out.mono HBD.out.size)).mono HBV.out.size)⟩
        · have HNL : Hid (ltL (xs.getD k (0, 0)) (x1, x2) = false) := Lib.hid (by rw [HY.out]; unfold ltL; simp; omega)
          have HZ6 : Hid (xs.take k ++ [(x1, x2)] ++ xs.drop k = putL (x1, x2) xs) := Lib.hid (putL_new (by omega) HR.out (fun _ => ⟨HNL.out, by rw [HY.out]; intro h; cases h; exact h2 rfl⟩))
          have h2b : (y1 == x1) = false := by rw [beq_eq_false_iff_ne]; exact h2
          go_wp2_with fail
          refine wp_region_noPanic ?_
          refine wp_region_held_drew (S := (fun w' => (w'.cell? ⟨W.heap.size, 0, none⟩ = some (.int .i64 x1) ∧ w'.cell? ⟨W.heap.size, 1, none⟩ = some (.int .i64 x2)) ∧ (w'.cell? ⟨g, k * 2, none⟩ = some (.int .i64 y1) ∧ w'.cell? ⟨g, k * 2 + 1, none⟩ = some (.int .i64 y2)))) (by kernel_rfl) ?_ (fun hHeld => ?_)
          · rw [World.cell?_drew, World.cell?_drew, World.cell?_drew, World.cell?_drew]; exact HSS.out
          refine take_val 0 (some 6) (.int .i64 k) (by kernel_rfl) (by kernel_rfl) (by kernel_rfl) (fun _ _ _ h => h) ⟨_, rfl, rfl, by rfl, fun w hSw => by go_simp⟩ (by assumption) ?_
          try simp only [Act.put, List.setIfInBounds_toArray, List.set_cons_zero, List.set_cons_succ]
          refine take_val 1 (some 7) (.slice (some ⟨g, 0, none⟩) len cap) (by kernel_rfl) (by kernel_rfl) (by kernel_rfl) (fun _ _ _ h => h) ⟨_, rfl, rfl, by rfl, fun w hSw => by go_simp⟩ (by assumption) ?_
          try simp only [Act.put, List.setIfInBounds_toArray, List.set_cons_zero, List.set_cons_succ]
          refine take_val 2 (some 8) (.int .i64 len) (by kernel_rfl) (by kernel_rfl) (by kernel_rfl) (fun _ _ _ h => h) ⟨_, rfl, rfl, by rfl, fun w hSw => by go_simp⟩ (by assumption) ?_
          try simp only [Act.put, List.setIfInBounds_toArray, List.set_cons_zero, List.set_cons_succ]
          refine take_val 3 (some 9) (.bool true) (by kernel_rfl) (by kernel_rfl) (by kernel_rfl) (fun _ _ _ h => h) ⟨_, rfl, rfl, by rfl, fun w hSw => by go_simp⟩ (by assumption) ?_
          try simp only [Act.put, List.setIfInBounds_toArray, List.set_cons_zero, List.set_cons_succ]
          refine take_val 4 (some 10) (.bool true) (by kernel_rfl) (by kernel_rfl) (by kernel_rfl) (fun _ _ _ h => h) ⟨_, rfl, rfl, by rfl, fun w hSw => by go_simp⟩ (by assumption) ?_
          try simp only [Act.put, List.setIfInBounds_toArray, List.set_cons_zero, List.set_cons_succ]
          refine take_val 5 (some 11) (.slice (some ⟨g, 0, none⟩) len cap) (by kernel_rfl) (by kernel_rfl) (by kernel_rfl) (fun _ _ _ h => h) ⟨_, rfl, rfl, by rfl, fun w hSw => by go_simp⟩ (by assumption) ?_
          try simp only [Act.put, List.setIfInBounds_toArray, List.set_cons_zero, List.set_cons_succ]
          refine take_val 6 (some 12) (.int .i64 k) (by kernel_rfl) (by kernel_rfl) (by kernel_rfl) (fun _ _ _ h => h) ⟨_, rfl, rfl, by rfl, fun w hSw => by go_simp⟩ (by assumption) ?_
          try simp only [Act.put, List.setIfInBounds_toArray, List.set_cons_zero, List.set_cons_succ]
          refine take_val 7 (some 13) (.pointer (some ⟨g, k * 2, none⟩)) (by kernel_rfl) (by kernel_rfl) (by kernel_rfl) (fun _ _ _ h => h) ⟨_, rfl, rfl, by rfl, fun w hSw => by go_simp⟩ (by assumption) ?_
          try simp only [Act.put, List.setIfInBounds_toArray, List.set_cons_zero, List.set_cons_succ]
          refine take_val 8 (some 14) (.pointer (some ⟨g, k * 2, none⟩)) (by kernel_rfl) (by kernel_rfl) (by kernel_rfl) (fun _ _ _ h => h) ⟨_, rfl, rfl, by rfl, fun w hSw => by go_simp⟩ (by assumption) ?_
          try simp only [Act.put, List.setIfInBounds_toArray, List.set_cons_zero, List.set_cons_succ]
          refine take_val 9 (some 15) (.int .i64 y1) (by kernel_rfl) (by kernel_rfl) (by kernel_rfl) (fun _ _ _ h => h) ⟨_, rfl, rfl, by rfl, fun w hSw => by go_simp⟩ (by assumption) ?_
          try simp only [Act.put, List.setIfInBounds_toArray, List.set_cons_zero, List.set_cons_succ]
          refine take_val 10 (some 16) (.pointer (some ⟨W.heap.size, 0, none⟩)) (by kernel_rfl) (by kernel_rfl) (by kernel_rfl) (fun _ _ _ h => h) ⟨_, rfl, rfl, by rfl, fun w hSw => by go_simp⟩ (by assumption) ?_
          try simp only [Act.put, List.setIfInBounds_toArray, List.set_cons_zero, List.set_cons_succ]
          refine take_val 11 (some 17) (.int .i64 x1) (by kernel_rfl) (by kernel_rfl) (by kernel_rfl) (fun _ _ _ h => h) ⟨_, rfl, rfl, by rfl, fun w hSw => by go_simp⟩ (by assumption) ?_
          try simp only [Act.put, List.setIfInBounds_toArray, List.set_cons_zero, List.set_cons_succ]
          refine take_val 12 (some 18) (.bool false) (by kernel_rfl) (by kernel_rfl) (by kernel_rfl) (fun _ _ _ h => h) ⟨_, rfl, rfl, by rfl, fun w hSw => by go_simp⟩ (by assumption) ?_
          try simp only [Act.put, List.setIfInBounds_toArray, List.set_cons_zero, List.set_cons_succ]
          refine take_val 13 (some 19) (.bool false) (by kernel_rfl) (by kernel_rfl) (by kernel_rfl) (fun _ _ _ h => h) ⟨_, rfl, rfl, by rfl, fun w hSw => by go_simp⟩ (by assumption) ?_
          try simp only [Act.put, List.setIfInBounds_toArray, List.set_cons_zero, List.set_cons_succ]
          refine take_val 14 (some 20) (.slice (some ⟨g, 0, none⟩) len cap) (by kernel_rfl) (by kernel_rfl) (by kernel_rfl) (fun _ _ _ h => h) ⟨_, rfl, rfl, by rfl, fun w hSw => by go_simp⟩ (by assumption) ?_
          try simp only [Act.put, List.setIfInBounds_toArray, List.set_cons_zero, List.set_cons_succ]
          refine take_val 15 (some 21) (.int .i64 k) (by kernel_rfl) (by kernel_rfl) (by kernel_rfl) (fun _ _ _ h => h) ⟨_, rfl, rfl, by rfl, fun w hSw => by go_simp⟩ (by assumption) ?_
          try simp only [Act.put, List.setIfInBounds_toArray, List.set_cons_zero, List.set_cons_succ]
          refine take_val 16 (some 22) (.pointer (some ⟨g, k * 2, none⟩)) (by kernel_rfl) (by kernel_rfl) (by kernel_rfl) (fun _ _ _ h => h) ⟨_, rfl, rfl, by rfl, fun w hSw => by go_simp⟩ (by assumption) ?_
          try simp only [Act.put, List.setIfInBounds_toArray, List.set_cons_zero, List.set_cons_succ]
          refine take_val 17 (some 23) (.pointer (some ⟨g, k * 2, none⟩)) (by kernel_rfl) (by kernel_rfl) (by kernel_rfl) (fun _ _ _ h => h) ⟨_, rfl, rfl, by rfl, fun w hSw => by go_simp⟩ (by assumption) ?_
          try simp only [Act.put, List.setIfInBounds_toArray, List.set_cons_zero, List.set_cons_succ]
          refine take_val 18 (some 24) (.int .i64 y1) (by kernel_rfl) (by kernel_rfl) (by kernel_rfl) (fun _ _ _ h => h) ⟨_, rfl, rfl, by rfl, fun w hSw => by go_simp⟩ (by assumption) ?_
          try simp only [Act.put, List.setIfInBounds_toArray, List.set_cons_zero, List.set_cons_succ]
          refine take_val 19 (some 25) (.pointer (some ⟨W.heap.size, 0, none⟩)) (by kernel_rfl) (by kernel_rfl) (by kernel_rfl) (fun _ _ _ h => h) ⟨_, rfl, rfl, by rfl, fun w hSw => by go_simp⟩ (by assumption) ?_
          try simp only [Act.put, List.setIfInBounds_toArray, List.set_cons_zero, List.set_cons_succ]
          refine take_val 20 (some 26) (.int .i64 x1) (by kernel_rfl) (by kernel_rfl) (by kernel_rfl) (fun _ _ _ h => h) ⟨_, rfl, rfl, by rfl, fun w hSw => by go_simp⟩ (by assumption) ?_
          try simp only [Act.put, List.setIfInBounds_toArray, List.set_cons_zero, List.set_cons_succ]
          refine take_val 21 (some 27) (.bool false) (by kernel_rfl) (by kernel_rfl) (by kernel_rfl) (fun _ _ _ h => h) ⟨_, rfl, rfl, by rfl, fun w hSw => by go_simp⟩ (by assumption) ?_
          try simp only [Act.put, List.setIfInBounds_toArray, List.set_cons_zero, List.set_cons_succ]
          refine take_val 22 (some 28) (.bool false) (by kernel_rfl) (by kernel_rfl) (by kernel_rfl) (fun _ _ _ h => h) ⟨_, rfl, rfl, by rfl, fun w hSw => by go_simp⟩ (by assumption) ?_
          try simp only [Act.put, List.setIfInBounds_toArray, List.set_cons_zero, List.set_cons_succ]
          refine take_un 23 (some 29) (by kernel_rfl) (by kernel_rfl) (by kernel_rfl) (fun _ _ _ h => h) ⟨_, rfl, rfl, by rfl⟩ (by assumption) ?_
          try simp only [Act.put, List.setIfInBounds_toArray, List.set_cons_zero, List.set_cons_succ]
          refine take_un 24 (some 30) (by kernel_rfl) (by kernel_rfl) (by kernel_rfl) (fun _ _ _ h => h) ⟨_, rfl, rfl, by rfl⟩ (by assumption) ?_
          try simp only [Act.put, List.setIfInBounds_toArray, List.set_cons_zero, List.set_cons_succ]
          refine take_un 25 (some 31) (by kernel_rfl) (by kernel_rfl) (by kernel_rfl) (fun _ _ _ h => h) ⟨_, rfl, rfl, by rfl⟩ (by assumption) ?_
          try simp only [Act.put, List.setIfInBounds_toArray, List.set_cons_zero, List.set_cons_succ]
          refine take_un 26 (some 32) (by kernel_rfl) (by kernel_rfl) (by kernel_rfl) (fun _ _ _ h => h) ⟨_, rfl, rfl, by rfl⟩ (by assumption) ?_
          try simp only [Act.put, List.setIfInBounds_toArray, List.set_cons_zero, List.set_cons_succ]
          refine take_un 27 (some 33) (by kernel_rfl) (by kernel_rfl) (by kernel_rfl) (fun _ _ _ h => h) ⟨_, rfl, rfl, by rfl⟩ (by assumption) ?_
          try simp only [Act.put, List.setIfInBounds_toArray, List.set_cons_zero, List.set_cons_succ]
          refine take_un 28 (some 34) (by kernel_rfl) (by kernel_rfl) (by kernel_rfl) (fun _ _ _ h => h) ⟨_, rfl, rfl, by rfl⟩ (by assumption) ?_
          try simp only [Act.put, List.setIfInBounds_toArray, List.set_cons_zero, List.set_cons_succ]
          refine take_un 29 (some 35) (by kernel_rfl) (by kernel_rfl) (by kernel_rfl) (fun _ _ _ h => h) ⟨_, rfl, rfl, by rfl⟩ (by assumption) ?_
          try simp only [Act.put, List.setIfInBounds_toArray, List.set_cons_zero, List.set_cons_succ]
          refine take_un 30 (some 36) (by kernel_rfl) (by kernel_rfl) (by kernel_rfl) (fun _ _ _ h => h) ⟨_, rfl, rfl, by rfl⟩ (by assumption) ?_
          try simp only [Act.put, List.setIfInBounds_toArray, List.set_cons_zero, List.set_cons_succ]
          refine take_val 31 (some 37) (.bool false) (by kernel_rfl) (by kernel_rfl) (by kernel_rfl) (fun _ _ _ h => h) ⟨_, rfl, rfl, by rfl, fun w hSw => by go_simp⟩ (by assumption) ?_
          try simp only [Act.put, List.setIfInBounds_toArray, List.set_cons_zero, List.set_cons_succ]
          refine take_val 32 (some 38) (.bool false) (by kernel_rfl) (by kernel_rfl) (by kernel_rfl) (fun _ _ _ h => h) ⟨_, rfl, rfl, by rfl, fun w hSw => by go_simp⟩ (by assumption) ?_
          try simp only [Act.put, List.setIfInBounds_toArray, List.set_cons_zero, List.set_cons_succ]
          refine take_val 33 (some 39) (.bool false) (by kernel_rfl) (by kernel_rfl) (by kernel_rfl) (fun _ _ _ h => h) ⟨_, rfl, rfl, by rfl, fun w hSw => by go_simp⟩ (by assumption) ?_
          try simp only [Act.put, List.setIfInBounds_toArray, List.set_cons_zero, List.set_cons_succ]
          refine wpAnyH_done (by kernel_rfl) ?_ _
          refine NoPanic.normal ?_
          go_wp2_with fail
          refine wp_region_noPanic ?_
          refine wp_region_held_drew (S := (fun w' => (w'.cell? ⟨W.heap.size, 0, none⟩ = some (.int .i64 x1) ∧ w'.cell? ⟨W.heap.size, 1, none⟩ = some (.int .i64 x2)) ∧ (w'.cell? ⟨g, k * 2, none⟩ = some (.int .i64 y1) ∧ w'.cell? ⟨g, k * 2 + 1, none⟩ = some (.int .i64 y2)))) (by kernel_rfl) ?_ (fun hHeld => ?_)
          · rw [World.cell?_drew, World.cell?_drew, World.cell?_drew, World.cell?_drew]; exact HSD.out
          refine take_val 0 (some 42) (.int .i64 k) (by kernel_rfl) (by kernel_rfl) (by kernel_rfl) (fun _ _ _ h => h) ⟨_, rfl, rfl, by rfl, fun w hSw => by go_simp⟩ (by assumption) ?_
          try simp only [Act.put, List.setIfInBounds_toArray, List.set_cons_zero, List.set_cons_succ]
          refine take_val 1 (some 43) (.slice (some ⟨g, 0, none⟩) len cap) (by kernel_rfl) (by kernel_rfl) (by kernel_rfl) (fun _ _ _ h => h) ⟨_, rfl, rfl, by rfl, fun w hSw => by go_simp⟩ (by assumption) ?_
          try simp only [Act.put, List.setIfInBounds_toArray, List.set_cons_zero, List.set_cons_succ]
          refine take_val 2 (some 44) (.int .i64 len) (by kernel_rfl) (by kernel_rfl) (by kernel_rfl) (fun _ _ _ h => h) ⟨_, rfl, rfl, by rfl, fun w hSw => by go_simp⟩ (by assumption) ?_
          try simp only [Act.put, List.setIfInBounds_toArray, List.set_cons_zero, List.set_cons_succ]
          refine take_val 3 (some 45) (.bool true) (by kernel_rfl) (by kernel_rfl) (by kernel_rfl) (fun _ _ _ h => h) ⟨_, rfl, rfl, by rfl, fun w hSw => by go_simp⟩ (by assumption) ?_
          try simp only [Act.put, List.setIfInBounds_toArray, List.set_cons_zero, List.set_cons_succ]
          refine take_val 4 (some 46) (.bool true) (by kernel_rfl) (by kernel_rfl) (by kernel_rfl) (fun _ _ _ h => h) ⟨_, rfl, rfl, by rfl, fun w hSw => by go_simp⟩ (by assumption) ?_
          try simp only [Act.put, List.setIfInBounds_toArray, List.set_cons_zero, List.set_cons_succ]
          refine take_val 5 (some 47) (.slice (some ⟨g, 0, none⟩) len cap) (by kernel_rfl) (by kernel_rfl) (by kernel_rfl) (fun _ _ _ h => h) ⟨_, rfl, rfl, by rfl, fun w hSw => by go_simp⟩ (by assumption) ?_
          try simp only [Act.put, List.setIfInBounds_toArray, List.set_cons_zero, List.set_cons_succ]
          refine take_val 6 (some 48) (.int .i64 k) (by kernel_rfl) (by kernel_rfl) (by kernel_rfl) (fun _ _ _ h => h) ⟨_, rfl, rfl, by rfl, fun w hSw => by go_simp⟩ (by assumption) ?_
          try simp only [Act.put, List.setIfInBounds_toArray, List.set_cons_zero, List.set_cons_succ]
          refine take_val 7 (some 49) (.pointer (some ⟨g, k * 2, none⟩)) (by kernel_rfl) (by kernel_rfl) (by kernel_rfl) (fun _ _ _ h => h) ⟨_, rfl, rfl, by rfl, fun w hSw => by go_simp⟩ (by assumption) ?_
          try simp only [Act.put, List.setIfInBounds_toArray, List.set_cons_zero, List.set_cons_succ]
          refine take_val 8 (some 50) (.agg #[.int .i64 y1, .int .i64 y2]) (by kernel_rfl) (by kernel_rfl) (by kernel_rfl) (fun _ _ _ h => h) ⟨_, rfl, rfl, by rfl, fun w hSw => by go_simp⟩ (by assumption) ?_
          try simp only [Act.put, List.setIfInBounds_toArray, List.set_cons_zero, List.set_cons_succ]
          refine take_val 9 (some 51) (.agg #[.int .i64 x1, .int .i64 x2]) (by kernel_rfl) (by kernel_rfl) (by kernel_rfl) (fun _ _ _ h => h) ⟨_, rfl, rfl, by rfl, fun w hSw => by go_simp⟩ (by assumption) ?_
          try simp only [Act.put, List.setIfInBounds_toArray, List.set_cons_zero, List.set_cons_succ]
          refine take_val 10 (some 52) (.bool false) (by kernel_rfl) (by kernel_rfl) (by kernel_rfl) (fun _ _ _ h => h) ⟨_, rfl, rfl, by rfl, fun w hSw => by go_simp⟩ (by assumption) ?_
          try simp only [Act.put, List.setIfInBounds_toArray, List.set_cons_zero, List.set_cons_succ]
          refine take_val 11 (some 53) (.bool false) (by kernel_rfl) (by kernel_rfl) (by kernel_rfl) (fun _ _ _ h => h) ⟨_, rfl, rfl, by rfl, fun w hSw => by go_simp⟩ (by assumption) ?_
          try simp only [Act.put, List.setIfInBounds_toArray, List.set_cons_zero, List.set_cons_succ]
          refine wpAnyH_done (by kernel_rfl) ?_ _
          refine NoPanic.normal ?_
          obtain ⟨D, hD⟩ : ∃ D, D = U.drew.drew := ⟨_, rfl⟩
          have HBD := Lib.hid (show Below V.heap.size V D by rw [hD]; exact HBU.out.drew.drew)
          have hzD := HBD.out.size
          have hXD : W.heap.size < D.heap.size := by omega
          have C0 := Lib.hid (show D.cell? ⟨W.heap.size, 0, none⟩ = some (.int .i64 x1) by rw [hD, World.cell?_drew, World.cell?_drew]; exact HPU.out.c0)
          have C1 := Lib.hid (show D.cell? ⟨W.heap.size, 1, none⟩ = some (.int .i64 x2) by rw [hD, World.cell?_drew, World.cell?_drew]; exact HPU.out.c1)
          have HOD := Lib.hid (HO.out.below HBD.out)
          have HTK := Lib.hid (HOD.out.sees.cutL (k := k) (by omega))
          have HDR := Lib.hid (HOD.out.sees.dropL (cap := cap) HCAP.out (p := k) (by omega))
          have c0 := C0.out
          have c1 := C1.out
          have hcapi : (len : Int) ≤ (cap : Int) := by have := HCAP.out; omega
          have hkc : (k : Int) ≤ (cap : Int) := by have := HCAP.out; omega
          have hkl0 : (k : Int) ≤ (len : Int) := by omega
          have hk0 : (0 : Int) ≤ (k : Int) := by omega
          have HN2 : Hid (OwnL ((D.alloc (.cells #[.int .i64 x1, .int .i64 x2] 38)).alloc (.cells #[] 38)) (D.heap.size + 1) (D.heap.size + 1 + 1) (some ⟨D.heap.size + 1, 0, none⟩) 0 0 []) := Lib.hid (by
            have h := ownL_nil (D.alloc (.cells #[.int .i64 x1, .int .i64 x2] 38))
            rw [World.size_alloc] at h
            exact h)
          have HS2 : Hid (SeesL ((D.alloc (.cells #[] 38)).alloc (.cells #[.int .i64 x1, .int .i64 x2] 38)) (some ⟨D.heap.size + 1, 0, none⟩) 1 [(x1, x2)]) := Lib.hid (by
            have h := seesL_one HW1.out HW2.out (D.alloc (.cells #[] 38)) 38
            rw [World.size_alloc] at h
            exact h)
          rw [← hD]
          clear hD
          go_wp2_with fail
          go_region_held3 (fun w' => w'.cell? ⟨W.heap.size, 0, none⟩ = some (.int .i64 x1) ∧ w'.cell? ⟨W.heap.size, 1, none⟩ = some (.int .i64 x2)) (go_keep) (first
            | (refine step_append_seesL (by rfl) _ _ 24 rfl i0 Try.underlying24 hi hz0 hz1 hz2 _ _ _ _ rfl _ _ HO5.out _ _ _ (xs.drop k) rfl (HDR.out.below G5.out) (by unfold maxLen; omega) (by omega) (by have := G5.out.size; omega) ?_; intro a6 len6 cap6 w6 hlen6 ho6 hm6; clear hlen6; rw [HZ6.out] at ho6; have hl6 := ho6.1; subst hl6; have HO6 := Lib.hid ho6; have G6 := Lib.hid (below_moved (B := D.heap.size) G5.out hm6 (Nat.le_refl _) (Nat.le_refl _)); have c0 := (G6.out.cell (p := ⟨W.heap.size, 0, none⟩) hXD).trans C0.out; have c1 := (G6.out.cell (p := ⟨W.heap.size, 1, none⟩) hXD).trans C1.out; clear ho6 hm6)
            | (refine step_append_seesL (by rfl) _ _ 24 rfl i0 Try.underlying24 hi hz0 hz1 hz2 _ _ _ _ rfl _ _ HO4.out _ 1 1 [(x1, x2)] rfl HX4.out (by unfold maxLen; omega) (by omega) (by have := G4.out.size; simp; omega) ?_; intro a5 len5 cap5 w5 hlen5 ho5 hm5; have hl5 : len5 ≤ 1048577 := (by omega); clear hlen5; have HO5 := Lib.hid ho5; have G5 := Lib.hid (below_moved (B := D.heap.size) (G4.out) hm5 (Nat.le_refl _) (Nat.le_refl _)); have c0 := (G5.out.cell (p := ⟨W.heap.size, 0, none⟩) hXD).trans C0.out; have c1 := (G5.out.cell (p := ⟨W.heap.size, 1, none⟩) hXD).trans C1.out; clear ho5 hm5)
            | (refine step_append_seesL (by rfl) _ _ 24 rfl i0 Try.underlying24 hi hz0 hz1 hz2 _ _ _ _ rfl _ _ (HO4.out.alloc _) _ 1 1 [(x1, x2)] rfl (seesL_one HW1.out HW2.out _ _) (by unfold maxLen; omega) (by omega) (by have := G4.out.size; simp; omega) ?_; intro a5 len5 cap5 w5 hlen5 ho5 hm5; have hl5 : len5 ≤ 1048577 := (by omega); clear hlen5; have HO5 := Lib.hid ho5; have G5 := Lib.hid (below_moved (B := D.heap.size) (G4.out.alloc G4.out.size _) hm5 (Nat.le_refl _) (Nat.le_refl _)); have c0 := (G5.out.cell (p := ⟨W.heap.size, 0, none⟩) hXD).trans C0.out; have c1 := (G5.out.cell (p := ⟨W.heap.size, 1, none⟩) hXD).trans C1.out; clear ho5 hm5)
            | (refine step_append_seesL (by rfl) _ _ 24 rfl i0 Try.underlying24 hi hz0 hz1 hz2 _ _ _ _ rfl _ _ ((ownL_nil _).below (Below.refl _ _).drew) _ _ _ (xs.take k) rfl ((HTK.out.alloc _).below (Below.refl _ _).drew) (by unfold maxLen; omega) (by omega) (by simp <;> omega) ?_; intro a4 len4 cap4 w4 hlen4 ho4 hm4; have hl4 : len4 ≤ 1048576 := (by omega); clear hlen4; rw [List.nil_append] at ho4; have HO4 := Lib.hid (ho4.wide (lo2 := D.heap.size) (by simp <;> omega) (Nat.le_refl _) (Nat.le_refl _)); have G4 := Lib.hid (below_moved (B := D.heap.size) (((Below.refl D.heap.size D).alloc (Nat.le_refl _) _).drew) hm4 (Nat.le_refl _) (by simp <;> omega)); have c0 := (G4.out.cell (p := ⟨W.heap.size, 0, none⟩) hXD).trans C0.out; have c1 := (G4.out.cell (p := ⟨W.heap.size, 1, none⟩) hXD).trans C1.out; clear ho4 hm4)
            | (refine step_append_seesL (by rfl) _ _ 24 rfl i0 Try.underlying24 hi hz0 hz1 hz2 _ _ _ _ rfl _ _ (((ownL_nil D).alloc (.cells #[.int .i64 x1, .int .i64 x2] 38)).below (Below.refl _ _).drew) _ _ _ (xs.take k) rfl (((HTK.out.alloc (.cells #[] 38)).alloc (.cells #[.int .i64 x1, .int .i64 x2] 38)).below (Below.refl _ _).drew) (by unfold maxLen; omega) (by omega) (by simp <;> omega) ?_; intro a4 len4 cap4 w4 hlen4 ho4 hm4; have hl4 : len4 ≤ 1048576 := (by omega); clear hlen4; rw [List.nil_append] at ho4; have HO4 := Lib.hid (ho4.wide (lo2 := D.heap.size) (by simp <;> omega) (Nat.le_refl _) (Nat.le_refl _)); have HX4 := Lib.hid ((HS2.out.below (Below.refl _ _).drew).moved hm4 (fun y hy => by cases hy; simp <;> omega)); have G4 := Lib.hid (below_moved (B := D.heap.size) ((((Below.refl D.heap.size D).alloc (Nat.le_refl _) _).alloc (by simp) _).drew) hm4 (Nat.le_refl _) (by simp <;> omega)); have c0 := (G4.out.cell (p := ⟨W.heap.size, 0, none⟩) hXD).trans C0.out; have c1 := (G4.out.cell (p := ⟨W.heap.size, 1, none⟩) hXD).trans C1.out; clear ho4 hm4)
            | (refine step_append_seesL (by rfl) _ _ 24 rfl i0 Try.underlying24 hi hz0 hz1 hz2 _ _ _ _ rfl _ _ (HN2.out.below (Below.refl _ _).drew) _ _ _ (xs.take k) rfl (((HTK.out.alloc (.cells #[.int .i64 x1, .int .i64 x2] 38)).alloc (.cells #[] 38)).below (Below.refl _ _).drew) (by unfold maxLen; omega) (by omega) (by simp <;> omega) ?_; intro a4 len4 cap4 w4 hlen4 ho4 hm4; have hl4 : len4 ≤ 1048576 := (by omega); clear hlen4; rw [List.nil_append] at ho4; have HO4 := Lib.hid (ho4.wide (lo2 := D.heap.size) (by simp <;> omega) (Nat.le_refl _) (Nat.le_refl _)); have HX4 := Lib.hid ((((seesL_one HW1.out HW2.out D 38).alloc (.cells #[] 38)).below (Below.refl _ _).drew).moved hm4 (fun y hy => by cases hy; simp <;> omega)); have G4 := Lib.hid (below_moved (B := D.heap.size) ((((Below.refl D.heap.size D).alloc (Nat.le_refl _) _).alloc (by simp) _).drew) hm4 (Nat.le_refl _) (by simp <;> omega)); have c0 := (G4.out.cell (p := ⟨W.heap.size, 0, none⟩) hXD).trans C0.out; have c1 := (G4.out.cell (p := ⟨W.heap.size, 1, none⟩) hXD).trans C1.out; clear ho4 hm4))
          all_goals
            go_wp2
            all_goals
              go_ret
              obtain ⟨g6, rfl⟩ := HO6.out.someA (by rw [← HZ6.out]; simp <;> omega)
              exact ⟨g6, _, _, rfl, HO6.out.wide (by omega) (Nat.le_refl _) (Nat.le_refl _), HBV.out.trans ((HBD.out.trans (G6.out.mono HBD.out.size)).mono HBV.out.size)⟩
    · obtain rfl : k = len := by omega
      have HZ6 : Hid (xs.take k ++ [(x1, x2)] ++ xs.drop k = putL (x1, x2) xs) := Lib.hid (putL_new (by rw [HL.out]; exact Nat.le_refl _) HR.out (fun h => by rw [HL.out] at h; omega))
      have HSS := Lib.hid (show U.cell? ⟨W.heap.size, 0, none⟩ = some (.int .i64 x1) ∧ U.cell? ⟨W.heap.size, 1, none⟩ = some (.int .i64 x2) from ⟨c0, c1⟩)
      have HSD := Lib.hid (show U.drew.cell? ⟨W.heap.size, 0, none⟩ = some (.int .i64 x1) ∧ U.drew.cell? ⟨W.heap.size, 1, none⟩ = some (.int .i64 x2) from ⟨c0, c1⟩)
      have knn : ¬ (k : Int) < (k : Int) := by omega
      clear hb c0 c1
      go_wp2_with fail
      refine wp_region_noPanic ?_
      refine wp_region_held_drew (S := (fun w' => w'.cell? ⟨W.heap.size, 0, none⟩ = some (.int .i64 x1) ∧ w'.cell? ⟨W.heap.size, 1, none⟩ = some (.int .i64 x2))) (by kernel_rfl) ?_ (fun hHeld => ?_)
      · rw [World.cell?_drew, World.cell?_drew]; exact HSS.out
      refine take_val 0 (some 6) (.int .i64 k) (by kernel_rfl) (by kernel_rfl) (by kernel_rfl) (fun _ _ _ h => h) ⟨_, rfl, rfl, by rfl, fun w hSw => by go_simp⟩ (by assumption) ?_
      try simp only [Act.put, List.setIfInBounds_toArray, List.set_cons_zero, List.set_cons_succ]
      refine take_val 1 (some 7) (.slice (some ⟨g, 0, none⟩) k cap) (by kernel_rfl) (by kernel_rfl) (by kernel_rfl) (fun _ _ _ h => h) ⟨_, rfl, rfl, by rfl, fun w hSw => by go_simp⟩ (by assumption) ?_
      try simp only [Act.put, List.setIfInBounds_toArray, List.set_cons_zero, List.set_cons_succ]
      refine take_val 2 (some 8) (.int .i64 k) (by kernel_rfl) (by kernel_rfl) (by kernel_rfl) (fun _ _ _ h => h) ⟨_, rfl, rfl, by rfl, fun w hSw => by go_simp⟩ (by assumption) ?_
      try simp only [Act.put, List.setIfInBounds_toArray, List.set_cons_zero, List.set_cons_succ]
      refine take_val 3 (some 9) (.bool false) (by kernel_rfl) (by kernel_rfl) (by kernel_rfl) (fun _ _ _ h => h) ⟨_, rfl, rfl, by rfl, fun w hSw => by go_simp⟩ (by assumption) ?_
      try simp only [Act.put, List.setIfInBounds_toArray, List.set_cons_zero, List.set_cons_succ]
      refine take_val 4 (some 10) (.bool false) (by kernel_rfl) (by kernel_rfl) (by kernel_rfl) (fun _ _ _ h => h) ⟨_, rfl, rfl, by rfl, fun w hSw => by go_simp⟩ (by assumption) ?_
      try simp only [Act.put, List.setIfInBounds_toArray, List.set_cons_zero, List.set_cons_succ]
      refine take_un 5 (some 11) (by kernel_rfl) (by kernel_rfl) (by kernel_rfl) (fun _ _ _ h => h) ⟨_, rfl, rfl, by rfl⟩ (by assumption) ?_
      try simp only [Act.put, List.setIfInBounds_toArray, List.set_cons_zero, List.set_cons_succ]
      refine take_un 6 (some 12) (by kernel_rfl) (by kernel_rfl) (by kernel_rfl) (fun _ _ _ h => h) ⟨_, rfl, rfl, by rfl⟩ (by assumption) ?_
      try simp only [Act.put, List.setIfInBounds_toArray, List.set_cons_zero, List.set_cons_succ]
      refine take_un 7 (some 13) (by kernel_rfl) (by kernel_rfl) (by kernel_rfl) (fun _ _ _ h => h) ⟨_, rfl, rfl, by rfl⟩ (by assumption) ?_
      try simp only [Act.put, List.setIfInBounds_toArray, List.set_cons_zero, List.set_cons_succ]
      refine take_un 8 (some 14) (by kernel_rfl) (by kernel_rfl) (by kernel_rfl) (fun _ _ _ h => h) ⟨_, rfl, rfl, by rfl⟩ (by assumption) ?_
      try simp only [Act.put, List.setIfInBounds_toArray, List.set_cons_zero, List.set_cons_succ]
      refine take_un 9 (some 15) (by kernel_rfl) (by kernel_rfl) (by kernel_rfl) (fun _ _ _ h => h) ⟨_, rfl, rfl, by rfl⟩ (by assumption) ?_
      try simp only [Act.put, List.setIfInBounds_toArray, List.set_cons_zero, List.set_cons_succ]
      refine take_un 10 (some 16) (by kernel_rfl) (by kernel_rfl) (by kernel_rfl) (fun _ _ _ h => h) ⟨_, rfl, rfl, by rfl⟩ (by assumption) ?_
      try simp only [Act.put, List.setIfInBounds_toArray, List.set_cons_zero, List.set_cons_succ]
      refine take_un 11 (some 17) (by kernel_rfl) (by kernel_rfl) (by kernel_rfl) (fun _ _ _ h => h) ⟨_, rfl, rfl, by rfl⟩ (by assumption) ?_
      try simp only [Act.put, List.setIfInBounds_toArray, List.set_cons_zero, List.set_cons_succ]
      refine take_un 12 (some 18) (by kernel_rfl) (by kernel_rfl) (by kernel_rfl) (fun _ _ _ h => h) ⟨_, rfl, rfl, by rfl⟩ (by assumption) ?_
      try simp only [Act.put, List.setIfInBounds_toArray, List.set_cons_zero, List.set_cons_succ]
      refine take_un 13 (some 19) (by kernel_rfl) (by kernel_rfl) (by kernel_rfl) (fun _ _ _ h => h) ⟨_, rfl, rfl, by rfl⟩ (by assumption) ?_
      try simp only [Act.put, List.setIfInBounds_toArray, List.set_cons_zero, List.set_cons_succ]
      refine take_un 14 (some 20) (by kernel_rfl) (by kernel_rfl) (by kernel_rfl) (fun _ _ _ h => h) ⟨_, rfl, rfl, by rfl⟩ (by assumption) ?_
      try simp only [Act.put, List.setIfInBounds_toArray, List.set_cons_zero, List.set_cons_succ]
      refine take_un 15 (some 21) (by kernel_rfl) (by kernel_rfl) (by kernel_rfl) (fun _ _ _ h => h) ⟨_, rfl, rfl, by rfl⟩ (by assumption) ?_
      try simp only [Act.put, List.setIfInBounds_toArray, List.set_cons_zero, List.set_cons_succ]
      refine take_un 16 (some 22) (by kernel_rfl) (by kernel_rfl) (by kernel_rfl) (fun _ _ _ h => h) ⟨_, rfl, rfl, by rfl⟩ (by assumption) ?_
      try simp only [Act.put, List.setIfInBounds_toArray, List.set_cons_zero, List.set_cons_succ]
      refine take_un 17 (some 23) (by kernel_rfl) (by kernel_rfl) (by kernel_rfl) (fun _ _ _ h => h) ⟨_, rfl, rfl, by rfl⟩ (by assumption) ?_
      try simp only [Act.put, List.setIfInBounds_toArray, List.set_cons_zero, List.set_cons_succ]
      refine take_un 18 (some 24) (by kernel_rfl) (by kernel_rfl) (by kernel_rfl) (fun _ _ _ h => h) ⟨_, rfl, rfl, by rfl⟩ (by assumption) ?_
      try simp only [Act.put, List.setIfInBounds_toArray, List.set_cons_zero, List.set_cons_succ]
      refine take_un 19 (some 25) (by kernel_rfl) (by kernel_rfl) (by kernel_rfl) (fun _ _ _ h => h) ⟨_, rfl, rfl, by rfl⟩ (by assumption) ?_
      try simp only [Act.put, List.setIfInBounds_toArray, List.set_cons_zero, List.set_cons_succ]
      refine take_un 20 (some 26) (by kernel_rfl) (by kernel_rfl) (by kernel_rfl) (fun _ _ _ h => h) ⟨_, rfl, rfl, by rfl⟩ (by assumption) ?_
      try simp only [Act.put, List.setIfInBounds_toArray, List.set_cons_zero, List.set_cons_succ]
      refine take_un 21 (some 27) (by kernel_rfl) (by kernel_rfl) (by kernel_rfl) (fun _ _ _ h => h) ⟨_, rfl, rfl, by rfl⟩ (by assumption) ?_
      try simp only [Act.put, List.setIfInBounds_toArray, List.set_cons_zero, List.set_cons_succ]
      refine take_un 22 (some 28) (by kernel_rfl) (by kernel_rfl) (by kernel_rfl) (fun _ _ _ h => h) ⟨_, rfl, rfl, by rfl⟩ (by assumption) ?_
      try simp only [Act.put, List.setIfInBounds_toArray, List.set_cons_zero, List.set_cons_succ]
      refine take_un 23 (some 29) (by kernel_rfl) (by kernel_rfl) (by kernel_rfl) (fun _ _ _ h => h) ⟨_, rfl, rfl, by rfl⟩ (by assumption) ?_
      try simp only [Act.put, List.setIfInBounds_toArray, List.set_cons_zero, List.set_cons_succ]
      refine take_un 24 (some 30) (by kernel_rfl) (by kernel_rfl) (by kernel_rfl) (fun _ _ _ h => h) ⟨_, rfl, rfl, by rfl⟩ (by assumption) ?_
      try simp only [Act.put, List.setIfInBounds_toArray, List.set_cons_zero, List.set_cons_succ]
      refine take_un 25 (some 31) (by kernel_rfl) (by kernel_rfl) (by kernel_rfl) (fun _ _ _ h => h) ⟨_, rfl, rfl, by rfl⟩ (by assumption) ?_
      try simp only [Act.put, List.setIfInBounds_toArray, List.set_cons_zero, List.set_cons_succ]
      refine take_un 26 (some 32) (by kernel_rfl) (by kernel_rfl) (by kernel_rfl) (fun _ _ _ h => h) ⟨_, rfl, rfl, by rfl⟩ (by assumption) ?_
      try simp only [Act.put, List.setIfInBounds_toArray, List.set_cons_zero, List.set_cons_succ]
      refine take_un 27 (some 33) (by kernel_rfl) (by kernel_rfl) (by kernel_rfl) (fun _ _ _ h => h) ⟨_, rfl, rfl, by rfl⟩ (by assumption) ?_
      try simp only [Act.put, List.setIfInBounds_toArray, List.set_cons_zero, List.set_cons_succ]
      refine take_un 28 (some 34) (by kernel_rfl) (by kernel_rfl) (by kernel_rfl) (fun _ _ _ h => h) ⟨_, rfl, rfl, by rfl⟩ (by assumption) ?_
      try simp only [Act.put, List.setIfInBounds_toArray, List.set_cons_zero, List.set_cons_succ]
      refine take_un 29 (some 35) (by kernel_rfl) (by kernel_rfl) (by kernel_rfl) (fun _ _ _ h => h) ⟨_, rfl, rfl, by rfl⟩ (by assumption) ?_
      try simp only [Act.put, List.setIfInBounds_toArray, List.set_cons_zero, List.set_cons_succ]
      refine take_un 30 (some 36) (by kernel_rfl) (by kernel_rfl) (by kernel_rfl) (fun _ _ _ h => h) ⟨_, rfl, rfl, by rfl⟩ (by assumption) ?_
      try simp only [Act.put, List.setIfInBounds_toArray, List.set_cons_zero, List.set_cons_succ]
      refine take_un 31 (some 37) (by kernel_rfl) (by kernel_rfl) (by kernel_rfl) (fun _ _ _ h => h) ⟨_, rfl, rfl, by rfl⟩ (by assumption) ?_
      try simp only [Act.put, List.setIfInBounds_toArray, List.set_cons_zero, List.set_cons_succ]
      refine take_un 32 (some 38) (by kernel_rfl) (by kernel_rfl) (by kernel_rfl) (fun _ _ _ h => h) ⟨_, rfl, rfl, by rfl⟩ (by assumption) ?_
      try simp only [Act.put, List.setIfInBounds_toArray, List.set_cons_zero, List.set_cons_succ]
      refine take_val 33 (some 39) (.bool false) (by kernel_rfl) (by kernel_rfl) (by kernel_rfl) (fun _ _ _ h => h) ⟨_, rfl, rfl, by rfl, fun w hSw => by go_simp⟩ (by assumption) ?_
      try simp only [Act.put, List.setIfInBounds_toArray, List.set_cons_zero, List.set_cons_succ]
      refine wpAnyH_done (by kernel_rfl) ?_ _
      refine NoPanic.normal ?_
      go_wp2_with fail
      refine wp_region_noPanic ?_
      refine wp_region_held_drew (S := (fun w' => w'.cell? ⟨W.heap.size, 0, none⟩ = some (.int .i64 x1) ∧ w'.cell? ⟨W.heap.size, 1, none⟩ = some (.int .i64 x2))) (by kernel_rfl) ?_ (fun hHeld => ?_)
      · rw [World.cell?_drew, World.cell?_drew]; exact HSD.out
      refine take_val 0 (some 42) (.int .i64 k) (by kernel_rfl) (by kernel_rfl) (by kernel_rfl) (fun _ _ _ h => h) ⟨_, rfl, rfl, by rfl, fun w hSw => by go_simp⟩ (by assumption) ?_
      try simp only [Act.put, List.setIfInBounds_toArray, List.set_cons_zero, List.set_cons_succ]
      refine take_val 1 (some 43) (.slice (some ⟨g, 0, none⟩) k cap) (by kernel_rfl) (by kernel_rfl) (by kernel_rfl) (fun _ _ _ h => h) ⟨_, rfl, rfl, by rfl, fun w hSw => by go_simp⟩ (by assumption) ?_
      try simp only [Act.put, List.setIfInBounds_toArray, List.set_cons_zero, List.set_cons_succ]
      refine take_val 2 (some 44) (.int .i64 k) (by kernel_rfl) (by kernel_rfl) (by kernel_rfl) (fun _ _ _ h => h) ⟨_, rfl, rfl, by rfl, fun w hSw => by go_simp⟩ (by assumption) ?_
      try simp only [Act.put, List.setIfInBounds_toArray, List.set_cons_zero, List.set_cons_succ]
      refine take_val 3 (some 45) (.bool false) (by kernel_rfl) (by kernel_rfl) (by kernel_rfl) (fun _ _ _ h => h) ⟨_, rfl, rfl, by rfl, fun w hSw => by go_simp⟩ (by assumption) ?_
      try simp only [Act.put, List.setIfInBounds_toArray, List.set_cons_zero, List.set_cons_succ]
      refine take_val 4 (some 46) (.bool false) (by kernel_rfl) (by kernel_rfl) (by kernel_rfl) (fun _ _ _ h => h) ⟨_, rfl, rfl, by rfl, fun w hSw => by go_simp⟩ (by assumption) ?_
      try simp only [Act.put, List.setIfInBounds_toArray, List.set_cons_zero, List.set_cons_succ]
      refine take_un 5 (some 47) (by kernel_rfl) (by kernel_rfl) (by kernel_rfl) (fun _ _ _ h => h) ⟨_, rfl, rfl, by rfl⟩ (by assumption) ?_
      try simp only [Act.put, List.setIfInBounds_toArray, List.set_cons_zero, List.set_cons_succ]
      refine take_un 6 (some 48) (by kernel_rfl) (by kernel_rfl) (by kernel_rfl) (fun _ _ _ h => h) ⟨_, rfl, rfl, by rfl⟩ (by assumption) ?_
      try simp only [Act.put, List.setIfInBounds_toArray, List.set_cons_zero, List.set_cons_succ]
      refine take_un 7 (some 49) (by kernel_rfl) (by kernel_rfl) (by kernel_rfl) (fun _ _ _ h => h) ⟨_, rfl, rfl, by rfl⟩ (by assumption) ?_
      try simp only [Act.put, List.setIfInBounds_toArray, List.set_cons_zero, List.set_cons_succ]
      refine take_un 8 (some 50) (by kernel_rfl) (by kernel_rfl) (by kernel_rfl) (fun _ _ _ h => h) ⟨_, rfl, rfl, by rfl⟩ (by assumption) ?_
      try simp only [Act.put, List.setIfInBounds_toArray, List.set_cons_zero, List.set_cons_succ]
      refine take_un 9 (some 51) (by kernel_rfl) (by kernel_rfl) (by kernel_rfl) (fun _ _ _ h => h) ⟨_, rfl, rfl, by rfl⟩ (by assumption) ?_
      try simp only [Act.put, List.setIfInBounds_toArray, List.set_cons_zero, List.set_cons_succ]
      refine take_un 10 (some 52) (by kernel_rfl) (by kernel_rfl) (by kernel_rfl) (fun _ _ _ h => h) ⟨_, rfl, rfl, by rfl⟩ (by assumption) ?_
      try simp only [Act.put, List.setIfInBounds_toArray, List.set_cons_zero, List.set_cons_succ]
      refine take_val 11 (some 53) (.bool false) (by kernel_rfl) (by kernel_rfl) (by kernel_rfl) (fun _ _ _ h => h) ⟨_, rfl, rfl, by rfl, fun w hSw => by go_simp⟩ (by assumption) ?_
      try simp only [Act.put, List.setIfInBounds_toArray, List.set_cons_zero, List.set_cons_succ]
      refine wpAnyH_done (by kernel_rfl) ?_ _
      refine NoPanic.normal ?_
      obtain ⟨D, hD⟩ : ∃ D, D = U.drew.drew := ⟨_, rfl⟩
      have HBD := Lib.hid (show Below V.heap.size V D by rw [hD]; exact HBU.out.drew.drew)
      have hzD := HBD.out.size
      have hXD : W.heap.size < D.heap.size := by omega
      have C0 := Lib.hid (show D.cell? ⟨W.heap.size, 0, none⟩ = some (.int .i64 x1) by rw [hD, World.cell?_drew, World.cell?_drew]; exact HPU.out.c0)
      have C1 := Lib.hid (show D.cell? ⟨W.heap.size, 1, none⟩ = some (.int .i64 x2) by rw [hD, World.cell?_drew, World.cell?_drew]; exact HPU.out.c1)
      have HOD := Lib.hid (HO.out.below HBD.out)
      have HTK := Lib.hid (HOD.out.sees.cutL (k := k) (by omega))
      have HDR := Lib.hid (by have h := HOD.out.sees.dropL (cap := cap) HCAP.out (p := k) (by omega); rw [Nat.sub_self] at h; exact h)
      have c0 := C0.out
      have c1 := C1.out
      have hcapi : (k : Int) ≤ (cap : Int) := by have := HCAP.out; omega
      have hkc : (k : Int) ≤ (cap : Int) := by have := HCAP.out; omega
      have hkl0 : (k : Int) ≤ (k : Int) := by omega
      have hk0 : (0 : Int) ≤ (k : Int) := by omega
      have HN2 : Hid (OwnL ((D.alloc (.cells #[.int .i64 x1, .int .i64 x2] 38)).alloc (.cells #[] 38)) (D.heap.size + 1) (D.heap.size + 1 + 1) (some ⟨D.heap.size + 1, 0, none⟩) 0 0 []) := Lib.hid (by
        have h := ownL_nil (D.alloc (.cells #[.int .i64 x1, .int .i64 x2] 38))
        rw [World.size_alloc] at h
        exact h)
      have HS2 : Hid (SeesL ((D.alloc (.cells #[] 38)).alloc (.cells #[.int .i64 x1, .int .i64 x2] 38)) (some ⟨D.heap.size + 1, 0, none⟩) 1 [(x1, x2)]) := Lib.hid (by
        have h := seesL_one HW1.out HW2.out (D.alloc (.cells #[] 38)) 38
        rw [World.size_alloc] at h
        exact h)
      rw [← hD]
      clear hD
      go_wp2_with fail
      go_region_held3 (fun w' => w'.cell? ⟨W.heap.size, 0, none⟩ = some (.int .i64 x1) ∧ w'.cell? ⟨W.heap.size, 1, none⟩ = some (.int .i64 x2)) (go_keep) (first
        | (refine step_append_seesL (by rfl) _ _ 24 rfl i0 Try.underlying24 hi hz0 hz1 hz2 _ _ _ _ rfl _ _ HO5.out _ _ _ (xs.drop k) rfl (HDR.out.below G5.out) (by unfold maxLen; omega) (by omega) (by have := G5.out.size; omega) ?_; intro a6 len6 cap6 w6 hlen6 ho6 hm6; clear hlen6; rw [HZ6.out] at ho6; have hl6 := ho6.1; subst hl6; have HO6 := Lib.hid ho6; have G6 := Lib.hid (below_moved (B := D.heap.size) G5.out hm6 (Nat.le_refl _) (Nat.le_refl _)); have c0 := (G6.out.cell (p := ⟨W.heap.size, 0, none⟩) hXD).trans C0.out; have c1 := (G6.out.cell (p := ⟨W.heap.size, 1, none⟩) hXD).trans C1.out; clear ho6 hm6)
        | (refine step_append_seesL (by rfl) _ _ 24 rfl i0 Try.underlying24 hi hz0 hz1 hz2 _ _ _ _ rfl _ _ HO4.out _ 1 1 [(x1, x2)] rfl HX4.out (by unfold maxLen; omega) (by omega) (by have := G4.out.size; simp; omega) ?_; intro a5 len5 cap5 w5 hlen5 ho5 hm5; have hl5 : len5 ≤ 1048577 := (by omega); clear hlen5; have HO5 := Lib.hid ho5; have G5 := Lib.hid (below_moved (B := D.heap.size) (G4.out) hm5 (Nat.le_refl _) (Nat.le_refl _)); have c0 := (G5.out.cell (p := ⟨W.heap.size, 0, none⟩) hXD).trans C0.out; have c1 := (G5.out.cell (p := ⟨W.heap.size, 1, none⟩) hXD).trans C1.out; clear ho5 hm5)
        | (refine step_append_seesL (by rfl) _ _ 24 rfl i0 Try.underlying24 hi hz0 hz1 hz2 _ _ _ _ rfl _ _ (HO4.out.alloc _) _ 1 1 [(x1, x2)] rfl (seesL_one HW1.out HW2.out _ _) (by unfold maxLen; omega) (by omega) (by have := G4.out.size; simp; omega) ?_; intro a5 len5 cap5 w5 hlen5 ho5 hm5; have hl5 : len5 ≤ 1048577 := (by omega); clear hlen5; have HO5 := Lib.hid ho5; have G5 := Lib.hid (below_moved (B := D.heap.size) (G4.out.alloc G4.out.size _) hm5 (Nat.le_refl _) (Nat.le_refl _)); have c0 := (G5.out.cell (p := ⟨W.heap.size, 0, none⟩) hXD).trans C0.out; have c1 := (G5.out.cell (p := ⟨W.heap.size, 1, none⟩) hXD).trans C1.out; clear ho5 hm5)
        | (refine step_append_seesL (by rfl) _ _ 24 rfl i0 Try.underlying24 hi hz0 hz1 hz2 _ _ _ _ rfl _ _ ((ownL_nil _).below (Below.refl _ _).drew) _ _ _ (xs.take k) rfl ((HTK.out.alloc _).below (Below.refl _ _).drew) (by unfold maxLen; omega) (by omega) (by simp <;> omega) ?_; intro a4 len4 cap4 w4 hlen4 ho4 hm4; have hl4 : len4 ≤ 1048576 := (by omega); clear hlen4; rw [List.nil_append] at ho4; have HO4 := Lib.hid (ho4.wide (lo2 := D.heap.size) (by simp <;> omega) (Nat.le_refl _) (Nat.le_refl _)); have G4 := Lib.hid (below_moved (B := D.heap.size) (((Below.refl D.heap.size D).alloc (Nat.le_refl _) _).drew) hm4 (Nat.le_refl _) (by simp <;> omega)); have c0 := (G4.out.cell (p := ⟨W.heap.size, 0, none⟩) hXD).trans C0.out; have c1 := (G4.out.cell (p := ⟨W.heap.size, 1, none⟩) hXD).trans C1.out; clear ho4 hm4)
        | (refine step_append_seesL (by rfl) _ _ 24 rfl i0 Try.underlying24 hi hz0 hz1 hz2 _ _ _ _ rfl _ _ (((ownL_nil D).alloc (.cells #[.int .i64 x1, .int .i64 x2] 38)).below (Below.refl _ _).drew) _ _ _ (xs.take k) rfl (((HTK.out.alloc (.cells #[] 38)).alloc (.cells #[.int .i64 x1, .int .i64 x2] 38)).below (Below.refl _ _).drew) (by unfold maxLen; omega) (by omega) (by simp <;> omega) ?_; intro a4 len4 cap4 w4 hlen4 ho4 hm4; have hl4 : len4 ≤ 1048576 := (by omega); clear hlen4; rw [List.nil_append] at ho4; have HO4 := Lib.hid (ho4.wide (lo2 := D.heap.size) (by simp <;> omega) (Nat.le_refl _) (Nat.le_refl _)); have HX4 := Lib.hid ((HS2.out.below (Below.refl _ _).drew).moved hm4 (fun y hy => by cases hy; simp <;> omega)); have G4 := Lib.hid (below_moved (B := D.heap.size) ((((Below.refl D.heap.size D).alloc (Nat.le_refl _) _).alloc (by simp) _).drew) hm4 (Nat.le_refl _) (by simp <;> omega)); have c0 := (G4.out.cell (p := ⟨W.heap.size, 0, none⟩) hXD).trans C0.out; have c1 := (G4.out.cell (p := ⟨W.heap.size, 1, none⟩) hXD).trans C1.out; clear ho4 hm4)
        | (refine step_append_seesL (by rfl) _ _ 24 rfl i0 Try.underlying24 hi hz0 hz1 hz2 _ _ _ _ rfl _ _ (HN2.out.below (Below.refl _ _).drew) _ _ _ (xs.take k) rfl (((HTK.out.alloc (.cells #[.int .i64 x1, .int .i64 x2] 38)).alloc (.cells #[] 38)).below (Below.refl _ _).drew) (by unfold maxLen; omega) (by omega) (by simp <;> omega) ?_; intro a4 len4 cap4 w4 hlen4 ho4 hm4; have hl4 : len4 ≤ 1048576 := (by omega); clear hlen4; rw [List.nil_append] at ho4; have HO4 := Lib.hid (ho4.wide (lo2 := D.heap.size) (by simp <;> omega) (Nat.le_refl _) (Nat.le_refl _)); have HX4 := Lib.hid ((((seesL_one HW1.out HW2.out D 38).alloc (.cells #[] 38)).below (Below.refl _ _).drew).moved hm4 (fun y hy => by cases hy; simp <;> omega)); have G4 := Lib.hid (below_moved (B := D.heap.size) ((((Below.refl D.heap.size D).alloc (Nat.le_refl _) _).alloc (by simp) _).drew) hm4 (Nat.le_refl _) (by simp <;> omega)); have c0 := (G4.out.cell (p := ⟨W.heap.size, 0, none⟩) hXD).trans C0.out; have c1 := (G4.out.cell (p := ⟨W.heap.size, 1, none⟩) hXD).trans C1.out; clear ho4 hm4))
      all_goals
        go_wp2
        all_goals
          go_ret
          obtain ⟨g6, rfl⟩ := HO6.out.someA (by rw [← HZ6.out]; simp <;> omega)
          exact ⟨g6, _, _, rfl, HO6.out.wide (by omega) (Nat.le_refl _) (Nat.le_refl _), HBV.out.trans ((HBD.out.trans (G6.out.mono HBD.out.size)).mono HBV.out.size)⟩
end Go.Proofs.Ytbjjgcfmdlinaaa
